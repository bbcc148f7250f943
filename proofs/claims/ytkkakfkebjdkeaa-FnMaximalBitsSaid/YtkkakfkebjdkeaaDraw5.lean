/- Contracts of the draws of sequences: bits of a register of the model, drawn bits, maximal taps. Contracts of the draws of sequences: drawn bits, one of a list of texts, digits, maximal taps. Contracts of the draws of sequences: maximal taps of the model, a drawn sequence. Contracts of the draws of sequences: one of some texts, digits, a sequence, one that is sometimes none, a shift, two sequences. -/
import Derived.Test.YtkkakfkebjdkeaaTapOf
import Derived.Test.YtkkakfkebjdkeaaDraw2
import Derived.Test.YtkkakfkebjdkeaaRegWalk
import Derived.Test.YtkkakfkebjdkeaaSeqTurn
import Derived.Test.YtkkakfkebjdkeaaSeqTable
import Derived.Test.YtkkakfkebjdkeaaSRun
import Derived.Deep.RegionWith
namespace Go.Proofs.Ytkkakfkebjdkeaa
open Go.RowKit
set_option linter.unusedVariables false
/-- What drawing a string leaves. -/
def StrPost (M b p : Nat) (zs : List Int) (w : World) (e : Ending) (w' : World) : Prop :=
  ∃ (z : ByteArray) (q : Nat), e = .returned (.string z) ∧ 1 ≤ z.size + (if M = 0 then 1 else 0) ∧ z.size ≤ M ∧ q ≤ p + 100 ∧ RdAt w' b q zs ∧ w.grownBy w' (some b)
/-- A string that the reader gave, perhaps empty. -/
def StrPost0 (M b p : Nat) (zs : List Int) (w : World) (e : Ending) (w' : World) : Prop :=
  ∃ (z : ByteArray) (q : Nat), e = .returned (.string z) ∧ z.size ≤ M ∧ q ≤ p + 100 ∧ RdAt w' b q zs ∧ w.grownBy w' (some b)
end Go.Proofs.Ytkkakfkebjdkeaa
namespace Go.Proofs.Ytkkakfkebjdkeaa
open Go.RowKit
set_option linter.unusedVariables false
/-- A slice of n bytes of the call's own. -/
def OB (w : World) (B : Nat) (v : Value) (n : Nat) : Prop := ∃ l : List Nat, l.length = n ∧ w.ownsRow B 5 1 v n (l.map fun x => Value.int .u8 (x : Nat))
theorem OB.kept {w w' : World} {B : Nat} {v : Value} {n : Nat} {row : Option Nat} (h : OB w B v n) (hg : w.grownBy w' row) (hne : v.ownBlock = none ∨ v.ownBlock ≠ row) : OB w' B v n := by
  obtain ⟨l, hl, h⟩ := h; exact ⟨l, hl, World.ownsRow.kept h hg hne⟩
theorem OB.alloc {w : World} {B : Nat} {v : Value} {n : Nat} (h : OB w B v n) (o : Obj) : OB (w.alloc o) B v n := by
  obtain ⟨l, hl, h⟩ := h; exact ⟨l, hl, World.ownsRow.alloc h o⟩
theorem OB.lt {w : World} {B : Nat} {v : Value} {n : Nat} (h : OB w B v n) : ∀ k, v.ownBlock = some k → B ≤ k ∧ k < w.heap.size := by
  obtain ⟨l, hl, h⟩ := h; exact World.ownsRow.lt h
theorem OB.str {w : World} {B : Nat} {v : Value} {n : Nat} (h : OB w B v n) : ∃ z : ByteArray, z.size = n ∧ (convert 22 9 v).run Try.prog w = .ok (.string z) w := by
  obtain ⟨l, hl, h⟩ := h
  have hc := fun g hg => World.ownsRow.cells h (g := g) hg
  obtain ⟨h1, ⟨rfl, rfl⟩ | ⟨g, cap, cur, rfl, hB, hg, hn, hm, hs, ht⟩⟩ := h
  · exact ⟨ByteArray.empty, rfl, run_convert_bytes_nil w 22 5 (by kernel_rfl) (by kernel_rfl) 0 0 9 (by kernel_rfl)⟩
  · refine ⟨_, ?_, run_convert_bytes_arg w 22 5 (by kernel_rfl) (by kernel_rfl) g 0 n cap (l.map fun x => ((x : Nat) : Int)) (by simp [hl]) (fun i hi => ?_) 9 (by kernel_rfl)⟩
    · rw [strOfNums_size]; simp [hl]
    · have hil : i < l.length := by omega
      have := hc g rfl i (.int .u8 (l[i] : Nat)) (by simp [List.getElem?_eq_getElem hil])
      have e : (⟨g, 0, none⟩ : Addr).add i = ⟨g, 0 + i, none⟩ := by unfold Addr.add; split <;> simp_all
      rw [e] at this
      rw [this]
      simp [List.getD_eq_getElem?_getD, List.getElem?_eq_getElem hil]
theorem bytes_info : (Try.prog.info? 5).map (fun i => (i.zero, i.size, i.bytes)) = some (some (.int .u8 0), 1, 1) := by kernel_rfl
theorem make_own_bytes (m : Nat) (hm : m ≤ 1000) (w : World) :
    (Instr.makeSlice 22 (.int .i64 0) (.int .i64 (m : Int))).run Try.prog w = .ok (.slice (some ⟨w.heap.size, 0, none⟩) 0 m) (w.alloc (.cells (madeCells #[.int .u8 0] m) 5)) := by
  obtain ⟨i0, hi, hzz⟩ := Option.map_eq_some_iff.1 bytes_info
  simp only [Prod.mk.injEq] at hzz
  obtain ⟨hz, hsz, hby⟩ := hzz
  have := run_make (P := Try.prog) w 22 5 i0 (.int .u8 0) (by kernel_rfl) hi hz .i64 .i64 0 m (Int.le_refl _) (by omega) (by rw [hby]; omega) (by omega)
  simpa [hsz, Value.cells] using this
theorem OB.made (m : Nat) (hm : m ≤ 1000) (w : World) : OB (w.alloc (.cells (madeCells #[.int .u8 0] m) 5)) w.heap.size (.slice (some ⟨w.heap.size, 0, none⟩) 0 m) 0 :=
  ⟨[], rfl, World.ownsRow_made w _ m (Nat.le_refl _) (by unfold maxLen; omega) (by simp [madeCells])⟩
theorem wpList_append_byte {w : World} {ops : Array Oper} {rest : List Oper} {o : Oper} {a : Act} {Q : Exit → Act → World → Prop} (hgd : o.guard = none) (s x : Operand)
    (ho : o.op = .call { callee := .builtin .append, args := #[s, x], argTypes := #[22, 22] }) (B : Nat) (v : Value) (n : Nat) (hs : a.eval s = v) (hown : OB w B v n)
    (ad c y : Nat) (hx : a.eval x = .slice (some ⟨ad, 0, none⟩) 1 c) (hc : w.cell? ⟨ad, 0, none⟩ = some (.int .u8 (y : Nat))) (hn : n ≤ 1000000) (hB : B ≤ w.heap.size)
    (h : ∀ v' w', OB w' B v' (n + 1) → w.grownBy w' v.ownBlock → wpList Try.prog ops Q rest (a.put o.dst v') w') : wpList Try.prog ops Q (o :: rest) a w := by
  obtain ⟨i0, hi, hzz⟩ := Option.map_eq_some_iff.1 bytes_info
  simp only [Prod.mk.injEq] at hzz
  obtain ⟨hz, hsz, hby⟩ := hzz
  obtain ⟨l, hl, hown⟩ := hown
  refine wpList_append_own w hgd s x 22 ho B 5 i0 (.int .u8 0) 1 1 (by kernel_rfl) hi hz hsz hby rfl (by decide) v n _ hs hown ⟨ad, 0, none⟩ 1 c [.int .u8 (y : Nat)] hx rfl ?_ ?_ ?_ ?_ hB ?_
  · intro j u hj
    cases j with
    | zero => simp at hj; subst hj; exact hc
    | succ j => simp at hj
  · intro u hu; simp at hu; subst hu; rfl
  · unfold maxLen; omega
  · omega
  · intro v' w' h1 h2 _
    exact h v' w' ⟨l ++ [y], by simp [hl], by rw [List.map_append]; exact h1⟩ h2
theorem grown_own {w w1 w2 : World} {b : Nat} {row : Option Nat} (h : w.grownBy w1 (some b)) (k : w1.grownBy w2 row) (hr : ∀ j, row = some j → w.heap.size ≤ j) : w.grownBy w2 (some b) :=
  h.andThen k (fun j e => .inl (hr j e))
set_option maxRecDepth 100000 in
theorem l1String_any (b p m : Nat) (zs : List Int) (w : World) (hr : RdAt w b p zs) (hp : p ≤ 900000) (hm : m ≤ 90) :
    Calls Try.prog 112 #[.pointer (some ⟨b, 0, none⟩), .int .i64 m] w (StrPost0 m b p zs w) := by
  have hmk := make_own_bytes m (by omega)
  have hbl := hr.1
  have hr0 := hr.alloc (.cells (madeCells #[.int .u8 0] m) 5)
  have hO := OB.made m (by omega) w
  have hg0 := World.grownBy_alloc w (.cells (madeCells #[.int .u8 0] m) 5) (some b)
  go_enter Try.func112, Try.ntmps112
  go_wp2_with fail
  have hm1 : (m : Int) + 1 = ((m + 1 : Nat) : Int) := by omega
  rw [hm1]
  clear hm1 hmk
  refine (pick_any b p (m + 1) zs _ hr0 (by omega) (by omega) (by omega)).mono ?_
  rintro e w1 ⟨k, hk, rfl, hr1, hg1⟩
  have hO1 := hO.kept hg1 (.inr (by simp [Value.ownBlock]; omega))
  have hg1' := hg0.trans hg1
  have hz1 : w.heap.size < w1.heap.size := by have := hg1.size; simp at this; omega
  clear hr hr0 hO hg0 hg1
  go_wp2
  go_loopw [5, 6] (fun v i wr => ∃ j n : Nat, n + j ≤ m ∧ i = .int .i64 j ∧ OB wr w.heap.size v n ∧ RdAt wr b (p + 1 + n) zs ∧ w.grownBy wr (some b)) (fun _ i _ => (intOf i).toNat)
  case atStart => exact ⟨k, 0, by omega, rfl, hO1, hr1, hg1'⟩
  case round =>
    obtain ⟨j, n, hjn, rfl, rO, rR, rg⟩ := hrel
    clear hO1 hr1 hg1' hz1
    by_cases h0 : 0 < j
    · go_wp2_with fail
      refine (pick_any b (p + 1 + n) 2 zs _ rR (by omega) (by omega) (by omega)).mono ?_
      rintro e w2 ⟨k2, hk2, rfl, hr2, hg2⟩
      have hO2 := rO.kept hg2 (by
        cases hv : u5.ownBlock with
        | none => exact .inl rfl
        | some q => right; intro e; cases e; have := (rO.lt _ hv).1; omega)
      have hgg := rg.trans hg2
      have hsz : w.heap.size ≤ w2.heap.size := hgg.size
      have u1 : IntKind.u8.wrap (48 + (k2 : Int)) = ((48 + k2 : Nat) : Int) := by rw [show (48 : Int) + (k2 : Int) = ((48 + k2 : Nat) : Int) by omega]; exact IntWalk.u8_in _ (by omega)
      clear rO rR rg hg2
      go_wp2_with (at_builtin; refine wpList_append_byte rfl _ _ rfl w.heap.size _ n rfl (hO2.alloc _) w2.heap.size 1 (48 + k2) rfl ?c1 ?c2 ?c3 ?_; rotate_left 3; intro v' w' O3 g3)
      case c1 => simp
      case c2 => omega
      case c3 => simp; omega
      have hr3 : RdAt w' b (p + 1 + n + 1) zs := (hr2.alloc _).kept g3 (fun q hq => by have := (hO2.lt q hq).1; omega)
      have hg3 : w.grownBy w' (some b) := grown_own (hgg.trans (World.grownBy_alloc w2 _ (some b))) g3 (fun q hq => (hO2.lt q hq).1)
      clear hO2 hr2 hgg g3 u1
      go_wp2
      go_roundw
      case rel => exact ⟨j - 1, n + 1, by omega, by rw [show ((j - 1 : Nat) : Int) = (j : Int) - 1 by omega], O3, hr3, hg3⟩
      case measure => simp [intOf]; omega
    · obtain rfl : j = 0 := by omega
      obtain ⟨z, hz, hst⟩ := rO.str
      go_wp2
      go_ret
      exact ⟨z, p + 1 + n, rfl, by omega, by omega, rR, rg⟩
end Go.Proofs.Ytkkakfkebjdkeaa
namespace Go.Proofs.Ytkkakfkebjdkeaa
open Go.RowKit
set_option linter.unusedVariables false
set_option maxRecDepth 100000 in
theorem l1Maximal_from (s t : Nat) (A : Int) (h8 : s ≤ 8) (hs : ∀ w, Calls Try.prog 128 #[.agg #[.int .i64 s, .int .i64 t, .int .i64 1]] w fun e w' => e = .returned (.int .i64 A) ∧ Below w.heap.size w w') (w : World) :
    Calls Try.prog 99 #[.int .i64 s, .int .i64 t] w fun e w' => e = .returned (.bool (decide (A = (tw s : Int) - 1))) ∧ Below w.heap.size w w' := by
  have HS := Lib.hid hs
  have hp := tw_pos s
  have ht := tw_le s h8
  have HT := Lib.hid (fun w => l1Two_any s w h8)
  clear hs
  have b0 : Below w.heap.size w (w.alloc (.cells #[.int .i64 s, .int .i64 t, .int .i64 1] 57)) := (Below.refl _ _).alloc (Nat.le_refl _) _
  by_cases hA : A = (tw s : Int) - 1
  · rw [decide_eq_true hA]
    subst hA
    go_enter Try.func99, Try.ntmps99
    go_wp2_with fail
    refine (HS.out _).mono ?_
    rintro e w1 ⟨rfl, hb1⟩
    have b1 := below_then b0 (Nat.le_refl _) hb1
    clear hb1 b0
    go_wp2_with fail
    refine (HT.out _).mono ?_
    rintro e w2 ⟨rfl, rfl⟩
    go_wp2
    go_ret
    exact ⟨ret_bool (by simp), b1⟩
  · rw [decide_eq_false hA]
    go_enter Try.func99, Try.ntmps99
    go_wp2_with fail
    refine (HS.out _).mono ?_
    rintro e w1 ⟨rfl, hb1⟩
    have b1 := below_then b0 (Nat.le_refl _) hb1
    clear hb1 b0
    go_wp2_with fail
    refine (HT.out _).mono ?_
    rintro e w2 ⟨rfl, rfl⟩
    go_wp2
    go_ret
    exact ⟨ret_bool (by simp [hA]), b1⟩
theorem tapOf_max (s : Nat) (h2 : 2 ≤ s) (h5 : s ≤ 5) (w : World) :
    Calls Try.prog 99 #[.int .i64 s, .int .i64 (tapOf s)] w fun e w' => e = .returned (.bool true) ∧ Below w.heap.size w w' := by
  obtain ⟨h1, h3, h4⟩ := tapOf_orbit s h2 h5
  have hp := tw_pos s
  have hP := fun w => sPeriodOf_yes s (tapOf s) 1 w (tapOf_reg s h2 h5) (tw s - 1) h1 (by rw [h3]; decide) h4
  rw [h3] at hP
  have := l1Maximal_from s (tapOf s) (((tw s - 1 : Nat) : Int) + 1 - ((1 : Nat) : Int)) (by omega) hP w
  rwa [decide_eq_true (by omega)] at this
theorem l1Maximal_some (s t : Nat) (h2 : 2 ≤ s) (h5 : s ≤ 5) (h : RegN s t 1) : ∃ bb : Bool, (t = tapOf s → bb = true) ∧ ∀ w, Calls Try.prog 99 #[.int .i64 s, .int .i64 t] w fun e w' => e = .returned (.bool bb) ∧ Below w.heap.size w w' := by
  by_cases ht : t = tapOf s
  · subst ht; exact ⟨true, fun _ => rfl, tapOf_max s h2 h5⟩
  · obtain ⟨N, hN, h0, hm⟩ := orbit_ends h
    exact ⟨_, fun e => absurd e ht, l1Maximal_from s t _ (by omega) (fun w => sPeriodOf_yes s t 1 w h N hN h0 hm)⟩
/-- Maximal taps of a size: at least one, and all are taps. -/
def TapsPost (s : Nat) (w : World) (e : Ending) (w' : World) : Prop :=
  ∃ (v : Value) (n : Nat) (f : Nat → Int), e = .returned v ∧ OF w' w.heap.size v n f ∧ 1 ≤ n ∧ n ≤ 300 ∧ (∀ j, j < n → ∃ t : Nat, f j = t ∧ RegN s t 1) ∧ Below w.heap.size w w'
set_option maxHeartbeats 1600000 in
set_option maxRecDepth 100000 in
theorem mTaps_any (s : Nat) (w : World) (h2 : 2 ≤ s) (h5 : s ≤ 5) : Calls Try.prog 45 #[.int .i64 s] w (TapsPost s w) := by
  have htw := tw_le s (by omega)
  have htw4 := tw_four s h2
  have HR : Hid (∀ t : Nat, 1 ≤ t → t < tw s → RegN s t 1) := fun t h1 h3 => ⟨by omega, by omega, h1, h3, by omega⟩
  have hto : 1 ≤ tapOf s ∧ tapOf s < tw s := ⟨(tapOf_reg s h2 h5).tap, (tapOf_reg s h2 h5).tapLt⟩
  obtain ⟨t0, ht0⟩ : ∃ t0, tapOf s = t0 := ⟨_, rfl⟩
  have HM : Hid (∀ t : Nat, 1 ≤ t → t < tw s → ∃ bb : Bool, (t = t0 → bb = true) ∧ ∀ w, Calls Try.prog 99 #[.int .i64 s, .int .i64 t] w fun e w' => e = .returned (.bool bb) ∧ Below w.heap.size w w') := fun t h1 h3 => by
    rw [← ht0]; exact l1Maximal_some s t h2 h5 (HR.out t h1 h3)
  have HY : Hid (∀ (t : Nat) w, 1 ≤ t → t < tw s → Calls Try.prog 96 #[.int .i64 s, .int .i64 t] w fun e w' => e = .returned (.bool true) ∧ w = w') := fun t w h1 h3 => l1Taps_yes _ _ w ((tapsB_iff _ _).2 ⟨by omega, by omega, by omega, by rw [Int.toNat_natCast]; omega⟩)
  have HN : Hid (∀ (t : Nat) w, tw s ≤ t → Calls Try.prog 96 #[.int .i64 s, .int .i64 t] w fun e w' => e = .returned (.bool false) ∧ w = w') := fun t w h1 => l1Taps_no _ _ w (by
    cases hb : tapsB s t with
    | false => rfl
    | true => have h := (tapsB_iff _ _).1 hb; rw [Int.toNat_natCast] at h; omega)
  rw [ht0] at hto
  obtain ⟨T, hT⟩ : ∃ T, tw s = T := ⟨_, rfl⟩
  rw [hT] at HR HM HY HN hto htw
  clear ht0 hT htw4
  go_enter Try.func45, Try.ntmps45
  go_wp2
  go_loopw [3, 4] (fun v i wr => ∃ (k n : Nat) (f : Nat → Int), 1 ≤ k ∧ k ≤ T ∧ i = .int .i64 k ∧ n + 1 ≤ k ∧ (t0 < k → 1 ≤ n) ∧ OF wr w.heap.size v n f ∧ Hid (∀ j, j < n → ∃ t : Nat, f j = t ∧ RegN s t 1) ∧ Below w.heap.size w wr) (fun _ i _ => T - (intOf i).toNat)
  case atStart => exact ⟨1, 0, fun _ => 0, by omega, by omega, rfl, by omega, fun h => by omega, OF.empty w _, fun j hj => absurd hj (Nat.not_lt_zero j), (Below.refl _ _).alloc (Nat.le_refl _) _⟩
  case round =>
    obtain ⟨k, n, f, hk1, hk2, rfl, hnk, ht, rO, rf, rb⟩ := hrel
    have HT := Lib.hid ht
    clear ht
    by_cases hlt : k < T
    · obtain ⟨bb, hbb, hM⟩ := HM.out k hk1 hlt
      have HB := Lib.hid hbb
      have HMM := Lib.hid hM
      clear hbb hM
      go_wp2_with fail
      refine (HY.out k _ hk1 hlt).mono ?_
      rintro e w1 ⟨rfl, rfl⟩
      go_wp2_with fail
      refine (HMM.out _).mono ?_
      rintro e w1 ⟨rfl, hB⟩
      have O1 := rO.below hB
      have b1 := below_then rb (Nat.le_refl _) hB
      clear rO rb hB
      cases bb with
      | false =>
        have hT' : Hid (t0 < k + 1 → 1 ≤ n) := fun h => by
          rcases Nat.lt_or_ge t0 k with h' | h'
          · exact HT.out h'
          · have := HB.out (by omega); cases this
        clear HB HT
        go_wp2
        go_roundw
        case rel => exact ⟨k + 1, n, f, by omega, by omega, by go_num, by omega, hT'.out, O1, rf, b1⟩
        case measure => simp [intOf]; omega
      | true =>
        go_wp2_with (at_builtin; refine wpList_append_int rfl _ _ rfl w.heap.size _ n f rfl (O1.alloc _) w1.heap.size 1 (k : Int) rfl ?c1 ?c2 ?c3 ?_; rotate_left 3; intro v' w' O2 g2)
        case c1 => simp
        case c2 => omega
        case c3 => have := b1.size; simp; omega
        have hb' : Below w.heap.size w w' := (b1.alloc b1.size _).grown g2 (by have := b1.size; simp; omega) (fun q hq => (O1.lt q hq).1)
        have hf' : Hid (∀ j, j < n + 1 → ∃ t : Nat, (if j < n then f j else (k : Int)) = t ∧ RegN s t 1) := fun j hj => by
          by_cases e : j < n
          · rw [if_pos e]; exact rf.out j e
          · rw [if_neg e]; exact ⟨k, rfl, HR.out k hk1 hlt⟩
        clear O1 b1 g2 rf
        go_wp2
        go_roundw
        case rel => exact ⟨k + 1, n + 1, _, by omega, by omega, by go_num, by omega, fun _ => by omega, O2, hf', hb'⟩
        case measure => simp [intOf]; omega
    · obtain rfl : k = T := by omega
      go_wp2_with fail
      refine (HN.out k _ (Nat.le_refl _)).mono ?_
      rintro e w1 ⟨rfl, rfl⟩
      go_wp2
      go_ret
      exact ⟨_, n, f, rfl, rO, HT.out (by omega), by omega, rf.out, rb⟩
end Go.Proofs.Ytkkakfkebjdkeaa
namespace Go.Proofs.Ytkkakfkebjdkeaa
open Go.RowKit
set_option linter.unusedVariables false
/-- A row of texts, none longer than M. -/
def TxtAt (w : World) (L n M : Nat) : Prop := L < w.heap.size ∧ ∀ i, i < n → ∃ z : ByteArray, w.cell? ⟨L, i, none⟩ = some (.string z) ∧ z.size ≤ M
set_option maxRecDepth 100000 in
theorem of_any (b p L n M : Nat) (zs : List Int) (w : World) (hr : RdAt w b p zs) (hx : TxtAt w L n M) (hLb : b < L) (hp : p ≤ 1000000) (h1 : 1 ≤ n) (h2 : n ≤ 1000) :
    Calls Try.prog 134 #[.pointer (some ⟨b, 0, none⟩), .slice (some ⟨L, 0, none⟩) n n] w (StrPost0 M b p zs w) := by
  go_enter Try.func134, Try.ntmps134
  go_wp2_with fail
  refine (pick_any b p n zs _ hr hp h1 (by omega)).mono ?_
  rintro e w1 ⟨k, hk, rfl, hr1, hg⟩
  obtain ⟨z, hz, hzM⟩ := hx.2 k hk
  have hc : w1.cell? ⟨L, k, none⟩ = some (.string z) := hg.cell hz (by simp; omega)
  clear hx hz
  go_wp2
  go_ret
  exact ⟨z, p + 1, rfl, hzM, by omega, hr1, hg⟩
set_option maxRecDepth 100000 in
theorem l9Dec_digit (n : Nat) (w : World) (hn : n ≤ 9) : Calls Try.prog 74 #[.int .i64 n] w fun e w' => (∃ z : ByteArray, e = .returned (.string z) ∧ z.size = 1) ∧ Below w.heap.size w w' := by
  obtain ⟨V, hV⟩ : ∃ V, 48 + n = V := ⟨_, rfl⟩
  have v1 : (48 : Int) + (n : Int) = (V : Int) := by omega
  have v2 : IntKind.u8.wrap (V : Int) = (V : Int) := IntWalk.u8_in _ (by omega)
  have hB : Bytes (w.alloc (.cells #[.int .u8 (V : Nat)] 5)) w.heap.size 5 1 (fun _ => V) := World.rowIs_alloc w #[.int .u8 (V : Nat)] 5 _ (fun i hi => by
    obtain rfl : i = 0 := by simp at hi; omega
    rfl)
  have hst := fun cap => hB.str (P := Try.prog) 22 5 9 (by kernel_rfl) (by kernel_rfl) (by kernel_rfl) 0 1 cap (by omega)
  obtain ⟨y, hy⟩ : ∃ y, strF 1 (fun _ => V) = y := ⟨_, rfl⟩
  have hys : y.size = 1 := by rw [← hy]; exact strF_size _ _
  rw [hy] at hst
  have HY := Lib.hid hys
  have hy2 : y.size + ByteArray.size ⟨#[]⟩ ≤ 9223372036854775807 := by rw [hys]; decide
  clear hy hB hys hV
  go_enter Try.func74, Try.ntmps74
  go_wp2
  go_loop [0, 3] (fun i s => i = .int .i64 n ∧ s = .string ⟨#[]⟩) (fun i _ => (intOf i).toNat)
  case atStart => exact ⟨rfl, rfl⟩
  case round =>
    obtain ⟨rfl, rfl⟩ := hrel
    go_wp2
    go_ret
    exact ⟨⟨_, rfl, by rw [ByteArray.size_append, HY.out]; rfl⟩, (Below.refl _ _).alloc (Nat.le_refl _) _⟩
/-- What drawing a sequence leaves. -/
def SeqPost (b p : Nat) (zs : List Int) (w : World) (e : Ending) (w' : World) : Prop :=
  ∃ (z : ByteArray) (q : Nat), e = .returned (.string z) ∧ 1 ≤ z.size ∧ z.size ≤ 40 ∧ q ≤ p + 200 ∧ RdAt w' b q zs ∧ w.grownBy w' (some b)
theorem drewRow (V : World) (row : Option Nat) : V.grownBy V.drew row := ⟨rfl, rfl, rfl, Nat.le_refl _, fun _ _ _ => rfl⟩
theorem pick_40 (b p : Nat) (zs : List Int) (w : World) (h : RdAt w b p zs) (hp : p ≤ 1000000) :
    Calls Try.prog 66 #[.pointer (some ⟨b, 0, none⟩), .int .i64 40] w (PickPost 40 b p zs w) := pick_any b p 40 zs w h hp (by omega) (by omega)
theorem run_one (s t x k : Nat) (w : World) (h : RegN s t x) (hk : k ≤ 100) :
    Calls Try.prog 111 #[.agg #[.int .i64 s, .int .i64 t, .int .i64 x], .int .i64 (IntKind.i64.wrap (1 + (k : Int)))] w fun e w' => e = .returned (.string (runS s t x (1 + k))) ∧ Below w.heap.size w w' := by
  have := l1Run_any s t x (1 + k) w h (by omega)
  rw [show ((1 + k : Nat) : Int) = 1 + (k : Int) by omega] at this
  rw [show IntKind.i64.wrap (1 + (k : Int)) = 1 + (k : Int) from IntWalk.i64_in _ (by omega)]
  exact this
theorem pick_few (b p n : Nat) (zs : List Int) (w : World) (h : RdAt w b p zs) (hp : p ≤ 1000000) (h1 : 1 ≤ n) (h2 : n ≤ 1000) :
    Calls Try.prog 66 #[.pointer (some ⟨b, 0, none⟩), .int .i64 n] w (PickPost n b p zs w) := pick_any b p n zs w h hp h1 (by omega)
theorem run_tw (s t : Nat) (w : World) (h : RegN s t 1) :
    Calls Try.prog 111 #[.agg #[.int .i64 s, .int .i64 t, .int .i64 1], .int .i64 (IntKind.i64.wrap (((tw s : Nat) : Int) - 1))] w fun e w' => e = .returned (.string (runS s t 1 (tw s - 1))) ∧ Below w.heap.size w w' := by
  have hp := tw_pos s
  have ht := tw_le s h.hi
  have := l1Run_any s t 1 (tw s - 1) w h (by omega)
  rw [show ((tw s - 1 : Nat) : Int) = ((tw s : Nat) : Int) - 1 by omega] at this
  rw [show IntKind.i64.wrap (((tw s : Nat) : Int) - 1) = ((tw s : Nat) : Int) - 1 from IntWalk.i64_in _ (by omega)]
  exact this
set_option maxHeartbeats 6400000 in
set_option maxRecDepth 100000 in
theorem l2Some_any (b p : Nat) (zs : List Int) (w : World) (hr : RdAt w b p zs) (hp : p ≤ 800000) :
    Calls Try.prog 73 #[.pointer (some ⟨b, 0, none⟩)] w (SeqPost b p zs w) := by
  have hbl := hr.1
  go_enter Try.func73, Try.ntmps73
  go_wp2_with fail
  refine (pick_any b p 4 zs _ hr (by omega) (by omega) (by omega)).mono ?_
  rintro e w1 ⟨k, hk, rfl, hr1, hg1⟩
  clear hr
  by_cases k0 : k = 0
  · subst k0
    clear hk
    go_wp2_with fail
    refine (l1Some_any b (p + 1) zs _ hr1 (by omega)).mono ?_
    rintro e w2 ⟨s, t, x, q, rfl, hR, hq, hr2, hg2⟩
    have hg2' := hg1.trans hg2
    clear hr1 hg1 hg2
    go_wp2_with fail
    obtain ⟨V, hrV, hgV, hAV, hVs, hbV, hV⟩ : ∃ V, RdAt V b q zs ∧ w.grownBy V (some b) ∧ RegAt V w2.heap.size s t x ∧ w.heap.size ≤ w2.heap.size ∧ b < w2.heap.size ∧ w2.alloc (.cells #[.int .i64 s, .int .i64 t, .int .i64 x] 57) = V :=
      ⟨_, hr2.alloc _, hg2'.trans (World.grownBy_alloc w2 _ (some b)), RegAt.new w2 _ s t x, hg2'.size, hr2.1, rfl⟩
    rw [hV]
    clear hV hr2 hg2'
    obtain ⟨c0, c1, c2, cl⟩ := id hAV
    go_region_with ((first
      | (go_at_call 66; ((with_reducible refine (pick_40 b q zs _ (hrV.below (Below.refl _ _).drew) (by omega)).mono ?_); rintro e w5 ⟨k1, hk1, rfl, hr5, hg5⟩; obtain ⟨m0, m1, m2, ml⟩ := (hAV.kept (drewRow V none) (by simp)).kept hg5 (by simp; omega)))
      | (go_at_call 111; ((with_reducible refine (run_one s t x k1 _ hR (by omega)).mono ?_); rintro e w6 ⟨rfl, hb6⟩))))
    all_goals
      have hz := runS_size s t x (1 + k1)
      have hrf : RdAt w6 b (q + 1) zs := hr5.below hb6
      have hgf : w.grownBy w6 (some b) := (hgV.trans ((drewRow V (some b)).trans hg5)).trans (grow hb6 (some b))
      obtain ⟨Z, hZ⟩ : ∃ Z, runS s t x (1 + k1) = Z := ⟨_, rfl⟩
      rw [hZ] at hz ⊢
      have HZ := Lib.hid hz
      clear hAV c0 c1 c2 cl m0 m1 m2 ml hr5 hg5 hb6 hgV hrV hZ hz
      go_wp2
      go_ret
      exact ⟨Z, q + 1, rfl, by rw [HZ.out]; omega, by rw [HZ.out]; omega, by omega, hrf, hgf⟩
  by_cases k1 : k = 1
  · subst k1
    clear hk k0
    go_wp2_with fail
    refine (num_any b (p + 1) zs _ w1.heap.size 4 [3, 4, 5, 2] (hr1.alloc _) (IntsAt.new w1 _ [3, 4, 5, 2]) rfl hr1.1 (by omega) (by omega) (by omega)).mono ?_
    rintro e w2 ⟨v, hv, rfl, hr2, hg2⟩
    obtain ⟨s, rfl, hs2, hs5⟩ : ∃ s : Nat, v = s ∧ 2 ≤ s ∧ s ≤ 5 := by
      simp only [List.mem_cons, List.not_mem_nil, or_false] at hv
      exact ⟨v.toNat, by omega, by omega, by omega⟩
    have hg2' := hg1.trans ((World.grownBy_alloc w1 _ (some b)).trans hg2)
    clear hv hr1 hg1 hg2
    go_wp2_with fail
    refine (mTaps_any s _ hs2 hs5).mono ?_
    rintro e w3 ⟨vv, n, f, rfl, O3, hn1, hn2, hf, hb3⟩
    have hr3 := hr2.below hb3
    have hg3 := hg2'.trans (grow hb3 (some b))
    have HF := Lib.hid hf
    have hbw : b < w2.heap.size := hr2.1
    obtain ⟨a, cap, rfl, ha⟩ := O3.form
    obtain ⟨g, rfl, hgB, hgl, hgc⟩ := ha (by omega)
    have HG := Lib.hid hgc
    have htw := tw_le s (by omega)
    have htw2 := tw_pos s
    clear hr2 hg2' hb3 hf O3 ha hgc
    go_wp2_with fail
    go_region_with ((first
      | (go_at_call 66; ((with_reducible refine (pick_few b (p + 1 + 1) n zs _ (hr3.below (Below.refl _ _).drew) (by omega) hn1 (by omega)).mono ?_); rintro e w5 ⟨k2, hk2, rfl, hr5, hg5⟩; obtain ⟨tt, htt, hRt⟩ := HF.out k2 hk2; have hcc : w5.cell? ⟨g, k2, none⟩ = some (.int .i64 (tt : Nat)) := (by rw [← htt]; exact hg5.cell ((HG.out k2 hk2).1) (by simp; omega))))
      | (go_at_call 65; ((with_reducible refine (l1Two_any s _ (by omega)).mono ?_); rintro e w' ⟨rfl, rfl⟩))
      | (go_at_call 111; ((with_reducible refine (run_tw s tt _ hRt).mono ?_); rintro e w6 ⟨rfl, hb6⟩))))
    all_goals
      have hz := runS_size s tt 1 (tw s - 1)
      have hrf : RdAt w6 b (p + 1 + 1 + 1) zs := hr5.below hb6
      have hgf : w.grownBy w6 (some b) := (hg3.trans ((drewRow w3 (some b)).trans hg5)).trans (grow hb6 (some b))
      have h4 := tw_four s hs2
      have h32 : tw s ≤ 32 := by
        have : s = 2 ∨ s = 3 ∨ s = 4 ∨ s = 5 := by omega
        rcases this with rfl | rfl | rfl | rfl <;> decide
      obtain ⟨Z, hZ⟩ : ∃ Z, runS s tt 1 (tw s - 1) = Z := ⟨_, rfl⟩
      rw [hZ] at hz ⊢
      have HZ := Lib.hid hz
      clear hr5 hg5 hb6 hg3 hr3 hcc htt hZ hz
      go_wp2
      go_ret
      exact ⟨Z, p + 1 + 1 + 1, rfl, by rw [HZ.out]; omega, by rw [HZ.out]; omega, by omega, hrf, hgf⟩
  by_cases k2 : k = 2
  · subst k2
    clear hk k0 k1
    go_wp2_with fail
    refine (l1String_any b (p + 1) 5 zs _ hr1 (by omega) (by omega)).mono ?_
    rintro e w2 ⟨z, q, rfl, hz, hq, hr2, hg2⟩
    have hg2' := hg1.trans hg2
    have hzs : z.size + ByteArray.size ⟨#[49]⟩ ≤ 9223372036854775807 := by show z.size + 1 ≤ _; omega
    have hzz : (z ++ ⟨#[49]⟩).size = z.size + 1 := by rw [ByteArray.size_append]; rfl
    have HS := Lib.hid (show z.size + 1 ≤ 6 by omega)
    clear hr1 hg1 hg2
    go_wp2_with fail
    obtain ⟨Y, hY⟩ : ∃ Y, z ++ ⟨#[49]⟩ = Y := ⟨_, rfl⟩
    rw [hY] at hzz ⊢
    have HY := Lib.hid hzz
    clear hY hzz hzs
    refine (pick_any b q 4 zs _ hr2 (by omega) (by omega) (by omega)).mono ?_
    rintro e w3 ⟨k3, hk3, rfl, hr3, hg3⟩
    have hg3' := hg2'.trans hg3
    have hm : Y.size * (1 + k3) ≤ 6 * 4 := Nat.mul_le_mul (by rw [HY.out]; exact HS.out) (by omega)
    have hm2 : 1 ≤ Y.size * (1 + k3) := Nat.mul_pos (by rw [HY.out]; omega) (by omega)
    have hM := fun w => l9Many_any Y (1 + k3) w (by omega) (by omega)
    rw [show ((1 + k3 : Nat) : Int) = 1 + (k3 : Int) by omega] at hM
    have hsz := many_size Y (1 + k3)
    obtain ⟨Z, hZ⟩ : ∃ Z, many Y (1 + k3) = Z := ⟨_, rfl⟩
    rw [hZ] at hM hsz
    have HM := Lib.hid hM
    have HZ := Lib.hid (show 1 ≤ Z.size ∧ Z.size ≤ 40 by omega)
    clear hr2 hg2' hg3 hm hm2 hM hsz hZ
    go_wp2_with fail
    refine (HM.out _).mono ?_
    rintro e w' ⟨rfl, rfl⟩
    go_wp2
    go_ret
    exact ⟨Z, q + 1, rfl, HZ.out.1, HZ.out.2, by omega, hr3, hg3'⟩
  · have e0 : ((k : Int) == 0) = false := by simp; omega
    have e1 : ((k : Int) == 1) = false := by simp; omega
    have e2 : ((k : Int) == 2) = false := by simp; omega
    go_wp2_with fail
    clear e0 e1 e2
    refine (l1String_any b (p + 1) 24 zs _ hr1 (by omega) (by omega)).mono ?_
    rintro e w2 ⟨z, q, rfl, hz, hq, hr2, hg2⟩
    have hg2' := hg1.trans hg2
    have hzs : z.size + ByteArray.size ⟨#[48]⟩ ≤ 9223372036854775807 := by show z.size + 1 ≤ _; omega
    have HZ : Hid ((z ++ ⟨#[48]⟩).size = z.size + 1) := Lib.hid (by rw [ByteArray.size_append]; rfl)
    clear hr1 hg1 hg2
    go_wp2
    go_ret
    exact ⟨_, q, rfl, by rw [HZ.out]; omega, by rw [HZ.out]; omega, by omega, hr2, hg2'⟩
end Go.Proofs.Ytkkakfkebjdkeaa
