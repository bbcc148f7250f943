/- Contracts of the small functions on registers: parity, powers of two, validity. -/
import Derived.Test.YtlcnlhephhbhcaaProg
import Derived.Test.YtlcnlhephhbhcaaRegMath
import Derived.WalkKit
import Derived.WalkSpells
import Derived.Handy
import Derived.Outline
import Derived.Lib.Hide
import Derived.Deep.QuietTactic
import Derived.BigQuiet
import Derived.StillTailTactics
namespace Go.Proofs.Ytlcnlhephhbhcaa
open Go.RowKit

theorem quiet_same {P : Program} {f : FuncId} {args : Array Value} {w : World} {n : Nat} {v : Value}
    (h : Calls P f args (w.drewN n) fun e w' => e = .returned v ∧ w.drewN n = w') : Calls P f args (w.drewN n) fun e w'' => e = .returned v ∧ ∃ m, w'' = w.drewN m :=
  h.mono fun _ _ ⟨he, hm⟩ => ⟨he, n, hm.symm⟩
theorem below_drewN {B : Nat} {a w : World} (h : Below B a w) (n : Nat) : Below B a (w.drewN n) := ⟨h.os, h.tape, h.output, h.size, h.block⟩
theorem grownBy_drewN' (w : World) (n : Nat) (row : Option Nat) : w.grownBy (w.drewN n) row := ⟨rfl, rfl, rfl, Nat.le_refl _, fun _ _ _ => rfl⟩
theorem same_of {P : Program} {f : FuncId} {args : Array Value} {w : World} {r : Ending} (h : Calls P f args w fun e w' => e = r ∧ w = w') : Calls P f args w fun e w' => e = r ∧ w' = w :=
  h.mono fun _ _ ⟨he, hm⟩ => ⟨he, hm.symm⟩
theorem ret_int {k : IntKind} {a b : Int} (h : a = b) : Ending.returned (.int k a) = .returned (.int k b) := by rw [h]

set_option maxHeartbeats 400000 in
set_option maxRecDepth 100000 in
theorem l1Parity_any (n : Nat) (w : World) (h : n ≤ 9223372036854775807) :
    Calls Try.prog 133 #[.int .i64 n] w fun e w' => e = .returned (.int .i64 (par n : Nat)) ∧ w = w' := by
  go_enter Try.func133, Try.ntmps133
  go_wp2
  go_loop [3, 0] (fun out m' => ∃ m s : Nat, m ≤ 9223372036854775807 ∧ s < 2 ∧ m' = .int .i64 m ∧ out = .int .i64 s ∧ (s + par m) % 2 = par n) (fun _ m' => (intOf m').toNat)
  case atStart => exact ⟨n, 0, h, by omega, rfl, rfl, by have := par_lt n; omega⟩
  case round =>
    obtain ⟨m, s, hm, hs, rfl, rfl, hp⟩ := hrel
    have HP := Lib.hid hp
    clear hp
    by_cases hz : 0 < m
    · have hx := xor64_bit s (m % 2) hs (by omega)
      rw [show ((m % 2 : Nat) : Int) = (m : Int) % 2 by omega] at hx
      have HX := Lib.hid hx
      clear hx
      go_wp2
      go_round
      case rel =>
        refine ⟨m / 2, (s + m % 2) % 2, by omega, by omega, by go_num, ?_, ?_⟩
        · rw [HX.out]
        · have := HP.out
          rw [par_half m (by omega)] at this
          omega
      case measure => simp [intOf]; omega
    · obtain rfl : m = 0 := by omega
      go_wp2
      go_ret
      exact ⟨ret_int (by have := HP.out; rw [par_zero] at this; omega), rfl⟩
theorem ret_bool {a b : Bool} (h : a = b) : Ending.returned (.bool a) = .returned (.bool b) := by rw [h]
set_option maxRecDepth 100000 in
theorem l1Two_any (s : Nat) (w : World) (h : s ≤ 8) :
    Calls Try.prog 132 #[.int .i64 s] w fun e w' => e = .returned (.int .i64 (tw s : Nat)) ∧ w = w' := by
  go_enter Try.func132, Try.ntmps132
  go_wp2
  go_ret
  exact ⟨ret_int (wrap_tw s h), rfl⟩
set_option maxRecDepth 100000 in
theorem l1In_any (n lo hi : Int) (w : World) :
    Calls Try.prog 74 #[.int .i64 n, .int .i64 lo, .int .i64 hi] w fun e w' => e = .returned (.bool (decide (lo ≤ n) && decide (n ≤ hi))) ∧ w = w' := by
  by_cases h1 : lo ≤ n
  · go_enter Try.func74, Try.ntmps74
    go_wp2
    go_ret
    exact ⟨ret_bool (by simp [h1]), rfl⟩
  · go_enter Try.func74, Try.ntmps74
    go_wp2
    go_ret
    exact ⟨ret_bool (by rw [decide_eq_false (by omega : ¬ lo ≤ n)]; rfl), rfl⟩
theorem in_yes {n lo hi : Int} (h1 : lo ≤ n) (h2 : n ≤ hi) : (decide (lo ≤ n) && decide (n ≤ hi)) = true := by simp [h1, h2]
theorem in_no {n lo hi : Int} (h : ¬ (lo ≤ n ∧ n ≤ hi)) : (decide (lo ≤ n) && decide (n ≤ hi)) = false := by
  by_cases h1 : lo ≤ n
  · have h2 : ¬ n ≤ hi := fun h2 => h ⟨h1, h2⟩
    simp only [h1, h2, decide_true, decide_false, Bool.and_false]
  · simp only [h1, decide_false, Bool.false_and]
theorem l1In_yes (n lo hi : Int) (w : World) (h1 : lo ≤ n) (h2 : n ≤ hi) :
    Calls Try.prog 74 #[.int .i64 n, .int .i64 lo, .int .i64 hi] w fun e w' => e = .returned (.bool true) ∧ w = w' := by
  rw [← in_yes h1 h2]; exact l1In_any n lo hi w
theorem l1In_no (n lo hi : Int) (w : World) (h : ¬ (lo ≤ n ∧ n ≤ hi)) :
    Calls Try.prog 74 #[.int .i64 n, .int .i64 lo, .int .i64 hi] w fun e w' => e = .returned (.bool false) ∧ w = w' := by
  rw [← in_no h]; exact l1In_any n lo hi w
theorem taps_out {S T : Int} (h : ¬ (2 ≤ S ∧ S ≤ 8)) : false = tapsB S T := by
  cases hb : tapsB S T with
  | false => rfl
  | true => obtain ⟨h1, h2, _⟩ := (tapsB_iff S T).1 hb; exact absurd ⟨h1, h2⟩ h
theorem taps_in {s : Nat} {T : Int} (h1 : 2 ≤ s) (h2 : s ≤ 8) : (decide (1 ≤ T) && decide (T < tw s)) = tapsB s T := by
  rw [Bool.eq_iff_iff, tapsB_iff]; simp; omega
set_option maxRecDepth 100000 in
theorem l1Taps_any (S T : Int) (w : World) :
    Calls Try.prog 140 #[.int .i64 S, .int .i64 T] w fun e w' => e = .returned (.bool (tapsB S T)) ∧ w = w' := by
  by_cases h1 : 2 ≤ S ∧ S ≤ 8
  · obtain ⟨h2, h3⟩ := h1
    obtain ⟨s, rfl⟩ : ∃ s : Nat, S = s := ⟨S.toNat, by omega⟩
    have hb := tw_le s (by omega)
    have hp := tw_pos s
    go_enter Try.func140, Try.ntmps140
    go_wp2_with (first | (go_at_call 74; refine (l1In_any _ _ _ _).mono ?_; rintro e w' ⟨rfl, rfl⟩) | (go_at_call 132; refine (l1Two_any _ _ (by omega)).mono ?_; rintro e w' ⟨rfl, rfl⟩))
    go_ret
    exact ⟨ret_bool (by rw [← taps_in (by omega) (by omega), Bool.eq_iff_iff]; simp; omega), rfl⟩
  · go_enter Try.func140, Try.ntmps140
    go_wp2_with (first | (go_at_call 74; refine (l1In_no _ _ _ _ h1).mono ?_; rintro e w' ⟨rfl, rfl⟩))
    go_ret
    exact ⟨ret_bool (taps_out h1), rfl⟩
theorem l1Taps_yes (S T : Int) (w : World) (h : tapsB S T = true) :
    Calls Try.prog 140 #[.int .i64 S, .int .i64 T] w fun e w' => e = .returned (.bool true) ∧ w = w' := by
  rw [← h]; exact l1Taps_any S T w
theorem l1Taps_no (S T : Int) (w : World) (h : tapsB S T = false) :
    Calls Try.prog 140 #[.int .i64 S, .int .i64 T] w fun e w' => e = .returned (.bool false) ∧ w = w' := by
  rw [← h]; exact l1Taps_any S T w
theorem regB_no {S T X : Int} (h : tapsB S T = false) : false = regB S T X := by unfold regB; rw [h]; rfl
theorem regB_in {s : Nat} {T X : Int} (h : tapsB s T = true) : (decide (0 ≤ X) && decide (X < tw s)) = regB s T X := by unfold regB; rw [h]; simp
set_option maxRecDepth 100000 in
theorem sRegisterValid_any (S T X : Int) (w : World) :
    Calls Try.prog 143 #[.agg #[.int .i64 S, .int .i64 T, .int .i64 X]] w fun e w' => e = .returned (.bool (regB S T X)) ∧ Below w.heap.size w w' := by
  cases ht : tapsB S T with
  | true =>
    obtain ⟨h1, h2, h3, h4⟩ := (tapsB_iff S T).1 ht
    obtain ⟨s, rfl⟩ : ∃ s : Nat, S = s := ⟨S.toNat, by omega⟩
    have hb := tw_le s (by omega)
    have hp := tw_pos s
    go_enter Try.func143, Try.ntmps143
    go_wp2_with fail
    go_quiet ((first
      | (go_at_call 140; exact quiet_same (l1Taps_yes _ _ _ ht))
      | (go_at_call 74; exact quiet_same (l1In_any _ _ _ _))
      | (go_at_call 132; exact quiet_same (l1Two_any s _ (by omega)))))
    go_wp2
    go_ret
    exact ⟨ret_bool (by rw [← regB_in ht, Bool.eq_iff_iff]; simp; omega), below_drewN ((Below.refl _ _).alloc (Nat.le_refl _) _) _⟩
  | false =>
    go_enter Try.func143, Try.ntmps143
    go_wp2_with fail
    go_quiet ((first
      | (go_at_call 140; exact quiet_same (l1Taps_no _ _ _ ht))))
    go_wp2
    go_ret
    exact ⟨ret_bool (regB_no ht), below_drewN ((Below.refl _ _).alloc (Nat.le_refl _) _) _⟩
/-- One thing behind another: what lay there as the first began is as it was. -/
theorem below_then {B : Nat} {a w w' : World} (h : Below B a w) (hs : B ≤ a.heap.size) (k : Below w.heap.size w w') : Below B a w' := h.trans (k.mono (Nat.le_trans hs h.size))
/-- A block holds a register's three numbers. -/
def RegAt (w : World) (b : Nat) (S T X : Int) : Prop :=
  w.cell? ⟨b, 0, none⟩ = some (.int .i64 S) ∧ w.cell? ⟨b, 1, none⟩ = some (.int .i64 T) ∧ w.cell? ⟨b, 2, none⟩ = some (.int .i64 X) ∧ b < w.heap.size
theorem RegAt.new (w : World) (t : TypeId) (S T X : Int) : RegAt (w.alloc (.cells #[.int .i64 S, .int .i64 T, .int .i64 X] t)) w.heap.size S T X := by
  refine ⟨?_, ?_, ?_, by simp⟩ <;> simp
theorem RegAt.below {w w' : World} {b B : Nat} {S T X : Int} (h : RegAt w b S T X) (hb : Below B w w') (hB : b < B) : RegAt w' b S T X :=
  ⟨(hb.cell (p := ⟨b, 0, none⟩) hB).trans h.1, (hb.cell (p := ⟨b, 1, none⟩) hB).trans h.2.1, (hb.cell (p := ⟨b, 2, none⟩) hB).trans h.2.2.1, Nat.lt_of_lt_of_le h.2.2.2 hb.size⟩
theorem RegAt.kept {w w' : World} {b : Nat} {row : Option Nat} {S T X : Int} (h : RegAt w b S T X) (hg : w.grownBy w' row) (hne : some b ≠ row) : RegAt w' b S T X :=
  ⟨hg.cell h.1 hne, hg.cell h.2.1 hne, hg.cell h.2.2.1 hne, Nat.lt_of_lt_of_le h.2.2.2 hg.size⟩
theorem frozen_kept' {w w' : World} {b o : Nat} {row : Option Nat} (h : w.frozen? ⟨b, o, none⟩ = false) (hb : b < w.heap.size) (hg : w.grownBy w' row) (hne : some b ≠ row) : w'.frozen? ⟨b, o, none⟩ = false :=
  (World.frozen?_of_block (a := ⟨b, o, none⟩) (hg.block b hb hne)).trans h
theorem RegAt.set {W : World} {b : Nat} {S T X : Int} (h : RegAt W b S T X) (hf : W.frozen? ⟨b, 2, none⟩ = false) (Y : Int) :
    RegAt (W.setCell ⟨b, 2, none⟩ (.int .i64 Y)).drew b S T Y ∧ (W.setCell ⟨b, 2, none⟩ (.int .i64 Y)).drew.frozen? ⟨b, 2, none⟩ = false ∧ W.grownBy (W.setCell ⟨b, 2, none⟩ (.int .i64 Y)).drew (some b) := by
  obtain ⟨c0, c1, c2, cl⟩ := h
  refine ⟨⟨?_, ?_, ?_, ?_⟩, ?_, ?_⟩
  · go_simp
  · go_simp
  · go_simp
  · simp; omega
  · go_simp
  · exact ⟨rfl, rfl, rfl, by simp, fun k hk hne => Below.heap_setCell _ _ _ _ (fun e => hne (by rw [e]))⟩
/-- Two blocks that a function on registers by value lays first: its parameter's and its result's. -/
theorem two_new (w : World) (t : TypeId) (S T X : Int) : ∃ W, Below w.heap.size w W ∧ RegAt W w.heap.size S T X ∧ RegAt W (w.heap.size + 1) 0 0 0 ∧ (∀ o, W.frozen? ⟨w.heap.size, o, none⟩ = false) ∧ (∀ o, W.frozen? ⟨w.heap.size + 1, o, none⟩ = false) ∧
    W.heap.size = w.heap.size + 2 ∧ (w.alloc (.cells #[.int .i64 S, .int .i64 T, .int .i64 X] t)).alloc (.cells #[.int .i64 0, .int .i64 0, .int .i64 0] t) = W := by
  refine ⟨_, ((Below.refl _ w).alloc (Nat.le_refl _) _).alloc (by simp) _, ?_, ?_, ?_, ?_, ?_, rfl⟩
  · exact (RegAt.new w t S T X).below (B := w.heap.size + 1) ((Below.refl _ _).alloc (by simp) _) (by omega)
  · have := RegAt.new (w.alloc (.cells #[.int .i64 S, .int .i64 T, .int .i64 X] t)) t 0 0 0
    simpa using this
  · intro o; simp
  · intro o
    have : (w.alloc (.cells #[.int .i64 S, .int .i64 T, .int .i64 X] t)).heap.size = w.heap.size + 1 := by simp
    rw [← this]; simp
  · simp
set_option maxRecDepth 100000 in
theorem l1Step_any (s t x : Nat) (w : World) (hr : RegN s t x) :
    Calls Try.prog 139 #[.agg #[.int .i64 s, .int .i64 t, .int .i64 x]] w fun e w' => e = .returned (.agg #[.int .i64 s, .int .i64 t, .int .i64 (stepN s t x : Nat)]) ∧ Below w.heap.size w w' := by
  obtain ⟨k, rfl⟩ : ∃ k, s = k + 1 := ⟨s - 1, by have := hr.lo; omega⟩
  obtain ⟨h1, h2, h3, h4, h5⟩ := hr
  have h6 := tw_le (k + 1) h2
  have h7 : x &&& t ≤ x := Nat.and_le_left
  have h8 := par_lt (x &&& t)
  have e1 := and64 x t (by omega) (by omega)
  go_enter Try.func139, Try.ntmps139
  go_wp2_with fail
  have hk : IntKind.i64.wrap (k : Int) = k := IntWalk.i64_in _ (by omega)
  have hk0 : (0 : Int) ≤ (k : Int) := by omega
  obtain ⟨W, hB, ⟨c0, c1, c2, cl⟩, ⟨d0, d1, d2, dl⟩, hf, hf', hz, hW⟩ := two_new w 126 ((k : Int) + 1) t x
  rw [hW]
  clear hW
  have f2 := hf 2
  have g0 := hf' 0
  have g1 := hf' 1
  have g2 := hf' 2
  clear hf hf'
  have hv := sstep_value k t x h2 h5
  go_still_tail 16, (by kernel_rfl)
  still_call (same_of (l1Parity_any _ _ (by omega)))
  repeat still_step
  still_call (same_of (l1Two_any k _ (by omega)))
  repeat still_step
  try refine wpStill_nil ?_
  clear hk hk0 hv e1
  go_wp2
  refine bodyPost_ret (v := .agg #[.int .i64 ((k : Int) + 1), .int .i64 t, .int .i64 (stepN (k + 1) t x : Nat)]) (by simp [results, Try.results139, go_sem, d0, d1, d2]) rfl ⟨by simp, ?_⟩
  go_grown
end Go.Proofs.Ytlcnlhephhbhcaa
