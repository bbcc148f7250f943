/- ShortestRegister of both sides, and the walk of its exact law. -/
import Derived.Test.YtmmonhagceacjaaRunStart
import Derived.Test.YtmmonhagceacjaaRegFrom
import Derived.Test.YtmmonhagceacjaaSeqFun
namespace Go.Proofs.Ytmmonhagceacjaa
open Go.RowKit
set_option linter.unusedVariables false
def okS (z : ByteArray) : Bool := bitsB z && (decide (8 ≤ z.size) && decide (z.size ≤ 64))
def valX (z : ByteArray) (s : Nat) : Nat := valN (z.data.toList.take s)
def hitB (z : ByteArray) (s t : Nat) : Bool := decide (runS s t (valX z s) z.size = z)
/-- No register ahead of this size and these taps has the bits. -/
def Miss (z : ByteArray) (s t : Nat) : Prop := ∀ s' t', 2 ≤ s' → s' ≤ 8 → 1 ≤ t' → t' < tw s' → (s' < s ∨ s' = s ∧ t' < t) → hitB z s' t' = false
theorem Miss.start (z : ByteArray) : Miss z 2 0 := fun s' t' h1 _ _ _ h => by omega
theorem Miss.one {z : ByteArray} {s : Nat} (h : Miss z s 0) : Miss z s 1 := fun s' t' h1 h2 h3 h4 h5 => h s' t' h1 h2 h3 h4 (by omega)
theorem Miss.next {z : ByteArray} {s t : Nat} (h : Miss z s t) (hh : hitB z s t = false) : Miss z s (t + 1) := fun s' t' h1 h2 h3 h4 h5 => by
  by_cases e : s' = s ∧ t' = t
  · rw [e.1, e.2]; exact hh
  · exact h s' t' h1 h2 h3 h4 (by omega)
theorem Miss.row {z : ByteArray} {s : Nat} (h : Miss z s (tw s)) : Miss z (s + 1) 0 := fun s' t' h1 h2 h3 h4 h5 => by
  by_cases e : s' = s
  · subst e; exact h s' t' h1 h2 h3 h4 (.inr ⟨rfl, h4⟩)
  · exact h s' t' h1 h2 h3 h4 (by omega)
/-- What both sides answer. -/
def ShA (z : ByteArray) (a : RegAns) : Prop :=
  (okS z = true ∧ ((∃ s t : Nat, 2 ≤ s ∧ s ≤ 8 ∧ 1 ≤ t ∧ t < tw s ∧ Miss z s t ∧ hitB z s t = true ∧ a = ⟨s, t, (valX z s : Nat), true⟩) ∨ (Miss z 9 0 ∧ a = noReg))) ∨ (okS z = false ∧ a = noReg)
theorem ShA.one {z : ByteArray} {a b : RegAns} (h : ShA z a) (k : ShA z b) : a = b := by
  rcases h with ⟨h0, h⟩ | ⟨h0, rfl⟩
  · rcases k with ⟨_, k⟩ | ⟨k0, _⟩
    · rcases h with ⟨s, t, a1, a2, a3, a4, am, ah, rfl⟩ | ⟨hm, rfl⟩
      · rcases k with ⟨s', t', b1, b2, b3, b4, bm, bh, rfl⟩ | ⟨km, rfl⟩
        · have e1 : ¬ (s < s' ∨ s = s' ∧ t < t') := fun e => by rw [bm s t a1 a2 a3 a4 e] at ah; cases ah
          have e2 : ¬ (s' < s ∨ s' = s ∧ t' < t) := fun e => by rw [am s' t' b1 b2 b3 b4 e] at bh; cases bh
          obtain rfl : s = s' := by omega
          obtain rfl : t = t' := by omega
          rfl
        · rw [km s t a1 a2 a3 a4 (by omega)] at ah; cases ah
      · rcases k with ⟨s', t', b1, b2, b3, b4, bm, bh, rfl⟩ | ⟨km, rfl⟩
        · rw [hm s' t' b1 b2 b3 b4 (by omega)] at bh; cases bh
        · rfl
    · rw [h0] at k0; cases k0
  · rcases k with ⟨k0, _⟩ | ⟨_, rfl⟩
    · rw [h0] at k0; cases k0
    · rfl
/-- A box that is still empty. -/
def ZBox (W : World) (b : Nat) : Prop := RegAt W b 0 0 0 ∧ ∀ o, W.frozen? ⟨b, o, none⟩ = false
theorem ZBox.below {W W' : World} {b : Nat} (h : ZBox W b) (hb : Below W.heap.size W W') : ZBox W' b :=
  ⟨h.1.below hb h.1.2.2.2, fun o => (hb.frozen (p := ⟨b, o, none⟩) h.1.2.2.2).trans (h.2 o)⟩
theorem ZBox.new (W : World) (t : TypeId) : ZBox (W.alloc (.cells #[.int .i64 0, .int .i64 0, .int .i64 0] t)) W.heap.size := ⟨RegAt.new W t 0 0 0, fun o => by simp⟩
theorem okS_iff (z : ByteArray) : okS z = true ↔ bitsB z = true ∧ 8 ≤ z.size ∧ z.size ≤ 64 := by unfold okS; simp only [Bool.and_eq_true, decide_eq_true_eq]
theorem short_reg {z : ByteArray} {s t : Nat} (h : okS z = true) (h2 : 2 ≤ s) (h8 : s ≤ 8) (h1 : 1 ≤ t) (ht : t < tw s) : RegN s t (valX z s) := by
  obtain ⟨hb, hz, _⟩ := (okS_iff z).1 h
  have hok : okB z z.size = true := by unfold bitsB at hb; simp only [Bool.and_eq_true] at hb; exact hb.1
  refine ⟨h2, h8, h1, ht, ?_⟩
  have := valN_lt _ (allBits_of z s (by omega) (okB_less z s z.size (by omega) (Nat.le_refl _) hok))
  rw [List.length_take, show z.data.toList.length = z.size from rfl, Nat.min_eq_left (by omega)] at this
  exact this
set_option maxHeartbeats 1600000 in
set_option maxRecDepth 100000 in
theorem sShort_any (z : ByteArray) (w : World) (hz : z.size ≤ 9223372036854775807) :
    Calls Try.prog 34 #[.string z] w fun e w' => ∃ a, ShA z a ∧ e = .returned a.val ∧ Below w.heap.size w w' := by
  have hbv := fun w => l1Bits_any z w hz
  have Z0 := ZBox.new w 24
  have b0 := (Below.refl w.heap.size w).alloc (Nat.le_refl _) (.cells #[.int .i64 0, .int .i64 0, .int .i64 0] 24)
  cases hok : okS z with
  | false =>
    have hA : Hid (ShA z noReg) := Lib.hid (.inr ⟨hok, rfl⟩)
    obtain ⟨W, hW⟩ : ∃ W, w.alloc (.cells #[.int .i64 0, .int .i64 0, .int .i64 0] 24) = W := ⟨_, rfl⟩
    rw [hW] at Z0 b0
    obtain ⟨⟨d0, d1, d2, dl⟩, hf⟩ := Z0
    have g0 := hf 0
    have g1 := hf 1
    have g2 := hf 2
    cases hb : bitsB z with
    | false =>
      rw [hb] at hbv
      have HV := Lib.hid hbv
      clear hbv hb hok hf
      go_enter Try.func34, Try.ntmps34
      go_wp2_with (first | (go_at_call 67; refine (HV.out _).mono ?_; rintro e w' ⟨rfl, rfl⟩))
      refine bodyPost_ret (v := .tuple #[.agg #[.int .i64 0, .int .i64 0, .int .i64 0], .bool false]) (by simp [results, Try.results34, go_sem, d0, d1, d2]) rfl ⟨noReg, hA.out, rfl, ?_⟩
      go_grown
    | true =>
      rw [hb] at hbv
      have HV := Lib.hid hbv
      have hl : ¬ ((8 : Int) ≤ (z.size : Int) ∧ (z.size : Int) ≤ 64) := fun h => by rw [(okS_iff z).2 ⟨hb, by omega, by omega⟩] at hok; cases hok
      clear hbv hb hok hf
      go_enter Try.func34, Try.ntmps34
      go_wp2_with (first | (go_at_call 67; refine (HV.out _).mono ?_; rintro e w' ⟨rfl, rfl⟩) | (go_at_call 59; refine (l1In_no _ _ _ _ hl).mono ?_; rintro e w' ⟨rfl, rfl⟩))
      refine bodyPost_ret (v := .tuple #[.agg #[.int .i64 0, .int .i64 0, .int .i64 0], .bool false]) (by simp [results, Try.results34, go_sem, d0, d1, d2]) rfl ⟨noReg, hA.out, rfl, ?_⟩
      go_grown
  | true =>
    obtain ⟨hb, h8, h64⟩ := (okS_iff z).1 hok
    rw [hb] at hbv
    have HV := Lib.hid hbv
    have hokB : okB z z.size = true := by unfold bitsB at hb; simp only [Bool.and_eq_true] at hb; exact hb.1
    have HFr := Lib.hid (fun s t w (hs : s ≤ 8) => l1From_any s t z w hs (by omega) (okB_less z s z.size (by omega) (Nat.le_refl _) hokB))
    have HRn := Lib.hid (fun s t w (h2 : 2 ≤ s) (h8 : s ≤ 8) (h1 : 1 ≤ t) (ht : t < tw s) => l1Run_any s t (valX z s) z.size w (short_reg hok h2 h8 h1 ht) (by omega))
    have HT := Lib.hid (fun s w (h8 : s ≤ 8) => l1Two_any s w h8)
    have HX := Lib.hid (fun s t a1 a2 a3 a4 am ah => (show ShA z ⟨(s : Nat), (t : Nat), (valX z s : Nat), true⟩ from .inl ⟨hok, .inl ⟨s, t, a1, a2, a3, a4, am, ah, rfl⟩⟩))
    have HN := Lib.hid (fun hm => (show ShA z noReg from .inl ⟨hok, .inr ⟨hm, rfl⟩⟩))
    have i8 : (8 : Int) ≤ (z.size : Int) := by omega
    have i64 : (z.size : Int) ≤ 64 := by omega
    clear hbv hb hokB hok
    go_enter Try.func34, Try.ntmps34
    go_wp2_with fail
    refine (HV.out _).mono ?_
    rintro e w' ⟨rfl, rfl⟩
    go_wp2_with fail
    refine (l1In_yes _ _ _ _ i8 i64).mono ?_
    rintro e w' ⟨rfl, rfl⟩
    obtain ⟨W, hW⟩ : ∃ W, w.alloc (.cells #[.int .i64 0, .int .i64 0, .int .i64 0] 24) = W := ⟨_, rfl⟩
    rw [hW] at Z0 b0 ⊢
    clear hW HV
    go_wp2
    go_loopw [4] (fun c wr => ∃ s : Nat, 2 ≤ s ∧ s ≤ 9 ∧ c = .int .i64 s ∧ Hid (Miss z s 0) ∧ Hid (ZBox wr w.heap.size) ∧ Below w.heap.size w wr) (fun c _ => 9 - (intOf c).toNat)
    case atStart => exact ⟨2, by omega, by omega, rfl, Lib.hid (Miss.start z), Lib.hid Z0, b0⟩
    case round =>
      obtain ⟨s, s2, s9, rfl, rM, rZ, rb⟩ := hrel
      by_cases hs : s ≤ 8
      · have hs8 : (s : Int) ≤ 8 := by omega
        have hT := fun w => HT.out s w hs
        have hp := tw_pos s
        obtain ⟨T, hTT⟩ : ∃ T, tw s = T := ⟨_, rfl⟩
        rw [hTT] at hT hp
        have HTT := Lib.hid hTT
        have HTW := Lib.hid hT
        have hl := tw_le s hs
        rw [hTT] at hl
        clear hT hTT
        have M1 := Lib.hid rM.out.one
        go_wp2
        go_loopw [5] (fun c wr => ∃ t : Nat, 1 ≤ t ∧ t ≤ T ∧ c = .int .i64 t ∧ Hid (Miss z s t) ∧ Hid (ZBox wr w.heap.size) ∧ Below w.heap.size w wr) (fun c _ => T - (intOf c).toNat)
        case atStart => exact ⟨1, by omega, by omega, rfl, M1, rZ, rb⟩
        case round =>
          obtain ⟨t, t1, tT, rfl, qM, qZ, qb⟩ := hrel
          go_wp2_with fail
          refine (HTW.out _).mono ?_
          rintro e w' ⟨rfl, rfl⟩
          by_cases ht : t < T
          · have hF := fun w => HFr.out s t w hs
            have hR := fun w => HRn.out s t w s2 hs t1 (by rw [HTT.out]; exact ht)
            have hH : hitB z s t = decide (runS s t (valX z s) z.size = z) := rfl
            have hXs := HX.out s t s2 hs t1 (by rw [HTT.out]; exact ht) qM.out
            have hN := qM.out.next (z := z) (s := s) (t := t)
            obtain ⟨X, hX⟩ : ∃ X, valX z s = X := ⟨_, rfl⟩
            have hF' : ∀ w, Calls Try.prog 68 #[.int .i64 s, .int .i64 t, .string z] w fun e w' => e = .returned (.agg #[.int .i64 s, .int .i64 t, .int .i64 (X : Nat)]) ∧ Below w.heap.size w w' := fun w => by rw [← hX]; exact hF w
            rw [hX] at hR hH hXs
            obtain ⟨Y, hY⟩ : ∃ Y, runS s t X z.size = Y := ⟨_, rfl⟩
            rw [hY] at hR hH
            have HFF := Lib.hid hF'
            have HRR := Lib.hid hR
            clear hF hF' hR hX hY
            go_wp2_with fail
            refine (HFF.out _).mono ?_
            rintro e w1 ⟨rfl, hb1⟩
            have b1 := below_then qb (Nat.le_refl _) hb1
            have z1 := qZ.out.below hb1
            have rW := RegAt.new w1 24 s t X
            have b1' := b1.alloc b1.size (.cells #[.int .i64 s, .int .i64 t, .int .i64 X] 24)
            have z1' := z1.below ((Below.refl _ w1).alloc (Nat.le_refl _) (.cells #[.int .i64 s, .int .i64 t, .int .i64 X] 24))
            clear qZ qb hb1 z1
            go_wp2_with fail
            refine (HRR.out _).mono ?_
            rintro e w2 ⟨rfl, hb2⟩
            have b2 := below_then b1' (Nat.le_refl _) hb2
            have z2 := z1'.below hb2
            obtain ⟨m0, m1, m2, ml⟩ := rW.below hb2 (by simp)
            clear rW hb2 z1' b1' b1
            by_cases e : Y = z
            · subst e
              rw [decide_eq_true rfl] at hH
              have HA := Lib.hid (hXs hH)
              obtain ⟨⟨d0, d1, d2, dl⟩, hf⟩ := z2
              have g0 := hf 0
              have g1 := hf 1
              have g2 := hf 2
              clear hXs hN hH hf qM
              go_wp2
              refine bodyPost_ret (v := .tuple #[.agg #[.int .i64 s, .int .i64 t, .int .i64 X], .bool true]) (by simp [results, Try.results34, go_sem, d0, d1, d2]) rfl ⟨_, HA.out, rfl, (((b2.setCell (p := ⟨w.heap.size, 0, none⟩) (Nat.le_refl _) _).setCell (p := ⟨w.heap.size, 1, none⟩) (Nat.le_refl _) _).setCell (p := ⟨w.heap.size, 2, none⟩) (Nat.le_refl _) _)⟩
            · rw [decide_eq_false e] at hH
              have HM := Lib.hid (hN hH)
              have hne := str_ne e
              have HZ := Lib.hid z2
              clear hXs hN hH z2 qM m0 m1 m2 ml
              go_wp2
              go_roundw
              case rel => exact ⟨t + 1, by omega, by omega, by go_num, HM, HZ, b2⟩
              case measure => simp [intOf]; omega
          · obtain rfl : t = T := by omega
            have HM : Hid (Miss z (s + 1) 0) := Lib.hid (by have := qM.out; rw [← HTT.out] at this; exact this.row)
            go_wp2
            go_roundw
            case rel => exact ⟨s + 1, by omega, by omega, by go_num, HM, qZ, qb⟩
            case measure => simp [intOf]; omega
      · obtain rfl : s = 9 := by omega
        have HA := Lib.hid (HN.out rM.out)
        obtain ⟨⟨d0, d1, d2, dl⟩, hf⟩ := rZ.out
        have g0 := hf 0
        have g1 := hf 1
        have g2 := hf 2
        clear hf rM rZ
        go_wp2
        refine bodyPost_ret (v := .tuple #[.agg #[.int .i64 0, .int .i64 0, .int .i64 0], .bool false]) (by simp [results, Try.results34, go_sem, d0, d1, d2]) rfl ⟨_, HA.out, rfl, (((rb.setCell (p := ⟨w.heap.size, 0, none⟩) (Nat.le_refl _) _).setCell (p := ⟨w.heap.size, 1, none⟩) (Nat.le_refl _) _).setCell (p := ⟨w.heap.size, 2, none⟩) (Nat.le_refl _) _)⟩
theorem ext_list (z : ByteArray) (s : Nat) : (z.extract 0 s).data.toList = z.data.toList.take s := by rw [ByteArray.data_extract]; simp
theorem ext_bits {z : ByteArray} {s : Nat} (h : bitsB z = true) (hs : s ≤ z.size) : (z.extract 0 s).size = s ∧ bitsB (z.extract 0 s) = true := by
  have h1 : (z.extract 0 s).size = s := by rw [size_extract _ _ _ hs, Nat.sub_zero]
  unfold bitsB at h ⊢
  simp only [Bool.and_eq_true, decide_eq_true_eq] at h ⊢
  refine ⟨h1, okB_of_zb _ fun i hi => ?_, by omega⟩
  rw [h1] at hi
  rw [zb_extract _ _ _ _ hs (by omega), Nat.zero_add]
  exact okB_zb z h.1 i (by omega)
set_option maxHeartbeats 1600000 in
set_option maxRecDepth 100000 in
theorem iShort_any (z : ByteArray) (w : World) (hz : z.size ≤ 9223372036854775807) :
    Calls Try.prog 33 #[.string z] w fun e w' => ∃ a, ShA z a ∧ e = .returned a.val ∧ Below w.heap.size w w' := by
  have hbv := fun w => bitsValid_any z w hz
  have Z0 := ZBox.new w 24
  have b0 := (Below.refl w.heap.size w).alloc (Nat.le_refl _) (.cells #[.int .i64 0, .int .i64 0, .int .i64 0] 24)
  cases hok : okS z with
  | false =>
    have hA : Hid (ShA z noReg) := Lib.hid (.inr ⟨hok, rfl⟩)
    obtain ⟨W, hW⟩ : ∃ W, w.alloc (.cells #[.int .i64 0, .int .i64 0, .int .i64 0] 24) = W := ⟨_, rfl⟩
    rw [hW] at Z0 b0
    obtain ⟨⟨d0, d1, d2, dl⟩, hf⟩ := Z0
    have g0 := hf 0
    have g1 := hf 1
    have g2 := hf 2
    by_cases h8 : (z.size : Int) < 8
    · clear hbv hok hf
      go_enter Try.func33, Try.ntmps33
      go_wp2
      refine bodyPost_ret (v := .tuple #[.agg #[.int .i64 0, .int .i64 0, .int .i64 0], .bool false]) (by simp [results, Try.results33, go_sem, d0, d1, d2]) rfl ⟨noReg, hA.out, rfl, ?_⟩
      go_grown
    · by_cases h64 : (64 : Int) < (z.size : Int)
      · clear hbv hok hf
        go_enter Try.func33, Try.ntmps33
        go_wp2
        refine bodyPost_ret (v := .tuple #[.agg #[.int .i64 0, .int .i64 0, .int .i64 0], .bool false]) (by simp [results, Try.results33, go_sem, d0, d1, d2]) rfl ⟨noReg, hA.out, rfl, ?_⟩
        go_grown
      · have hb : bitsB z = false := by
          cases hb : bitsB z with
          | false => rfl
          | true => rw [(okS_iff z).2 ⟨hb, by omega, by omega⟩] at hok; cases hok
        rw [hb] at hbv
        have HV := Lib.hid hbv
        clear hbv hb hok hf
        go_enter Try.func33, Try.ntmps33
        go_wp2_with (first | (go_at_call 65; refine (HV.out _).mono ?_; rintro e w' ⟨rfl, rfl⟩))
        refine bodyPost_ret (v := .tuple #[.agg #[.int .i64 0, .int .i64 0, .int .i64 0], .bool false]) (by simp [results, Try.results33, go_sem, d0, d1, d2]) rfl ⟨noReg, hA.out, rfl, ?_⟩
        go_grown
  | true =>
    obtain ⟨hb, h8, h64⟩ := (okS_iff z).1 hok
    rw [hb] at hbv
    have HV := Lib.hid hbv
    have HFr : Hid (∀ s t w, 2 ≤ s → s ≤ 8 → 1 ≤ t → t < tw s → Calls Try.prog 17 #[.int .i64 (s : Nat), .int .i64 (t : Nat), .string (z.extract 0 s)] w fun e w' => e = .returned (.tuple #[.agg #[.int .i64 s, .int .i64 t, .int .i64 (valX z s : Nat)], .bool true]) ∧ Below w.heap.size w w') :=
      Lib.hid (fun s t w h2 h8' h1 ht => by
        obtain ⟨e1, e2⟩ := ext_bits hb (show s ≤ z.size by omega)
        have := iFrom_yes s t (z.extract 0 s) w ((tapsB_iff _ _).2 ⟨by omega, by omega, by omega, by rw [Int.toNat_natCast]; omega⟩) e1 e2
        rw [ext_list] at this
        exact this)
    have HRn := Lib.hid (fun s t w (h2 : 2 ≤ s) (h8 : s ≤ 8) (h1 : 1 ≤ t) (ht : t < tw s) => starts_any s t (valX z s) z w (short_reg hok h2 h8 h1 ht) (by omega))
    have HT := Lib.hid (fun s (h8 : s ≤ 8) => wrap_tw s h8)
    have HX := Lib.hid (fun s t a1 a2 a3 a4 am ah => (show ShA z ⟨(s : Nat), (t : Nat), (valX z s : Nat), true⟩ from .inl ⟨hok, .inl ⟨s, t, a1, a2, a3, a4, am, ah, rfl⟩⟩))
    have HN := Lib.hid (fun hm => (show ShA z noReg from .inl ⟨hok, .inr ⟨hm, rfl⟩⟩))
    have i8 : ¬ ((z.size : Int) < 8) := by omega
    have i64 : ¬ ((64 : Int) < (z.size : Int)) := by omega
    clear hbv hb hok
    go_enter Try.func33, Try.ntmps33
    go_wp2_with fail
    refine (HV.out _).mono ?_
    rintro e w' ⟨rfl, rfl⟩
    obtain ⟨W, hW⟩ : ∃ W, w.alloc (.cells #[.int .i64 0, .int .i64 0, .int .i64 0] 24) = W := ⟨_, rfl⟩
    rw [hW] at Z0 b0 ⊢
    clear hW HV
    go_wp2
    go_loopw [4] (fun c wr => ∃ s : Nat, 2 ≤ s ∧ s ≤ 9 ∧ c = .int .i64 s ∧ Hid (Miss z s 0) ∧ Hid (ZBox wr w.heap.size) ∧ Below w.heap.size w wr) (fun c _ => 9 - (intOf c).toNat)
    case atStart => exact ⟨2, by omega, by omega, rfl, Lib.hid (Miss.start z), Lib.hid Z0, b0⟩
    case round =>
      obtain ⟨s, s2, s9, rfl, rM, rZ, rb⟩ := hrel
      by_cases hs : s ≤ 8
      · have hs8 : (s : Int) ≤ 8 := by omega
        have hw := HT.out s hs
        have hp := tw_pos s
        have hl := tw_le s hs
        obtain ⟨T, hTT⟩ : ∃ T, tw s = T := ⟨_, rfl⟩
        rw [hTT] at hw hp hl
        have HTT := Lib.hid hTT
        have HW := Lib.hid hw
        clear hTT hw
        have M1 := Lib.hid rM.out.one
        go_wp2
        go_loopw [5] (fun c wr => ∃ t : Nat, 1 ≤ t ∧ t ≤ T ∧ c = .int .i64 t ∧ Hid (Miss z s t) ∧ Hid (ZBox wr w.heap.size) ∧ Below w.heap.size w wr) (fun c _ => T - (intOf c).toNat)
        case atStart => exact ⟨1, by omega, by omega, rfl, M1, rZ, rb⟩
        case round =>
          obtain ⟨t, t1, tT, rfl, qM, qZ, qb⟩ := hrel
          by_cases ht : t < T
          · have hlw : (t : Int) < wrap64 ((2 : Int) ^ s) := by rw [HW.out]; omega
            have hF := fun w => HFr.out s t w s2 hs t1 (by rw [HTT.out]; exact ht)
            have hR := fun w => HRn.out s t w s2 hs t1 (by rw [HTT.out]; exact ht)
            have hH : decide (runS s t (valX z s) z.size = z) = hitB z s t := rfl
            have hXs := HX.out s t s2 hs t1 (by rw [HTT.out]; exact ht) qM.out
            have hN := qM.out.next (z := z) (s := s) (t := t)
            rw [hH] at hR
            obtain ⟨X, hX⟩ : ∃ X, valX z s = X := ⟨_, rfl⟩
            rw [hX] at hF hR hXs
            obtain ⟨hb, hhb⟩ : ∃ b, hitB z s t = b := ⟨_, rfl⟩
            rw [hhb] at hR hXs hN
            have HFF := Lib.hid hF
            have HRR := Lib.hid hR
            have sz0 : (s : Int) ≤ (z.size : Int) := by omega
            have sz1 : (0 : Int) ≤ (s : Int) := by omega
            clear hF hR hX hH hhb
            go_wp2_with fail
            refine (HFF.out _).mono ?_
            rintro e w1 ⟨rfl, hb1⟩
            have b1 := below_then qb (Nat.le_refl _) hb1
            have z1 := qZ.out.below hb1
            have rW := RegAt.new w1 24 s t X
            have b1' := b1.alloc b1.size (.cells #[.int .i64 s, .int .i64 t, .int .i64 X] 24)
            have z1' := z1.below ((Below.refl _ w1).alloc (Nat.le_refl _) (.cells #[.int .i64 s, .int .i64 t, .int .i64 X] 24))
            clear qZ qb hb1 z1
            go_wp2_with fail
            refine (HRR.out _).mono ?_
            rintro e w2 ⟨rfl, hb2⟩
            have b2 := below_then b1' (Nat.le_refl _) hb2
            have z2 := z1'.below hb2
            obtain ⟨m0, m1, m2, ml⟩ := rW.below hb2 (by simp)
            clear rW hb2 z1' b1' b1
            cases hb with
            | true =>
              have HA := Lib.hid (hXs rfl)
              obtain ⟨⟨d0, d1, d2, dl⟩, hf⟩ := z2
              have g0 := hf 0
              have g1 := hf 1
              have g2 := hf 2
              clear hXs hN hf qM
              go_wp2
              refine bodyPost_ret (v := .tuple #[.agg #[.int .i64 s, .int .i64 t, .int .i64 X], .bool true]) (by simp [results, Try.results33, go_sem, d0, d1, d2]) rfl ⟨_, HA.out, rfl, (((b2.setCell (p := ⟨w.heap.size, 0, none⟩) (Nat.le_refl _) _).setCell (p := ⟨w.heap.size, 1, none⟩) (Nat.le_refl _) _).setCell (p := ⟨w.heap.size, 2, none⟩) (Nat.le_refl _) _)⟩
            | false =>
              have HM := Lib.hid (hN rfl)
              have HZ := Lib.hid z2
              clear hXs hN z2 qM m0 m1 m2 ml
              go_wp2
              go_roundw
              case rel => exact ⟨t + 1, by omega, by omega, by go_num, HM, HZ, b2⟩
              case measure => simp [intOf]; omega
          · obtain rfl : t = T := by omega
            have hlw : ¬ ((t : Int) < wrap64 ((2 : Int) ^ s)) := by rw [HW.out]; omega
            have HM : Hid (Miss z (s + 1) 0) := Lib.hid (by have := qM.out; rw [← HTT.out] at this; exact this.row)
            go_wp2
            go_roundw
            case rel => exact ⟨s + 1, by omega, by omega, by go_num, HM, qZ, qb⟩
            case measure => simp [intOf]; omega
      · obtain rfl : s = 9 := by omega
        have HA := Lib.hid (HN.out rM.out)
        obtain ⟨⟨d0, d1, d2, dl⟩, hf⟩ := rZ.out
        have g0 := hf 0
        have g1 := hf 1
        have g2 := hf 2
        clear hf rM rZ
        go_wp2
        refine bodyPost_ret (v := .tuple #[.agg #[.int .i64 0, .int .i64 0, .int .i64 0], .bool false]) (by simp [results, Try.results33, go_sem, d0, d1, d2]) rfl ⟨_, HA.out, rfl, (((rb.setCell (p := ⟨w.heap.size, 0, none⟩) (Nat.le_refl _) _).setCell (p := ⟨w.heap.size, 1, none⟩) (Nat.le_refl _) _).setCell (p := ⟨w.heap.size, 2, none⟩) (Nat.le_refl _) _)⟩
end Go.Proofs.Ytmmonhagceacjaa
