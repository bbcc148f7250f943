/- The index of a station by its name: both sides. -/
import Derived.Test.YtjnipbopimpggabCel3
import Derived.Shelf.Abstract
namespace Go.Proofs.Ytjnipbopimpggab
open Go.RowKit Go.Shelf
set_option linter.unusedVariables false
set_option maxRecDepth 100000
/-- From index k on, d stations: the first one with a name; -1 if there is none. -/
def ixI (f : Nat → Usr) (z : ByteArray) : Nat → Nat → Int
  | _, 0 => -1
  | k, d + 1 => if ((f k).code.toList == z.toList) = true then (k : Int) else ixI f z (k + 1) d
theorem ix_bd (f : Nat → Usr) (z : ByteArray) : ∀ d k, ixI f z k d = -1 ∨ ((k : Int) ≤ ixI f z k d ∧ ixI f z k d < (k : Int) + (d : Int))
  | 0, _ => .inl rfl
  | d + 1, k => by
    unfold ixI
    by_cases h : ((f k).code.toList == z.toList) = true
    · rw [if_pos h]; right; omega
    · rw [if_neg h]
      rcases ix_bd f z d (k + 1) with e | ⟨e1, e2⟩
      · left; exact e
      · right; omega
theorem ix_hit {f : Nat → Usr} {z : ByteArray} {k d : Nat} (h : ((f k).code.toList == z.toList) = true) (hd : 0 < d) : ixI f z k d = (k : Int) := by
  obtain ⟨d, rfl⟩ : ∃ e, d = e + 1 := ⟨d - 1, by omega⟩
  unfold ixI; rw [if_pos h]
theorem ix_step {f : Nat → Usr} {z : ByteArray} {k d : Nat} (h : ((f k).code.toList == z.toList) = false) : ixI f z k (d + 1) = ixI f z (k + 1) d := by
  rw [ixI]; rw [if_neg (by rw [h]; simp)]
/-- The index in all of n stations. -/
def ixN (n : Nat) (f : Nat → Usr) (z : ByteArray) : Int := ixI f z 0 n
theorem ixN_bd (n : Nat) (f : Nat → Usr) (z : ByteArray) : ixN n f z = -1 ∨ (0 ≤ ixN n f z ∧ ixN n f z < (n : Int)) := by
  rcases ix_bd f z n 0 with e | ⟨e1, e2⟩
  · exact .inl e
  · exact .inr ⟨by unfold ixN; omega, by unfold ixN; omega⟩
set_option maxHeartbeats 800000 in
theorem l8Index_any (v : Value) (n : Nat) (f : Nat → Usr) (z : ByteArray) (w : World) (h : UsrsC w v n f) (hn : n ≤ 1048576) :
    Calls Try.prog 43 #[v, .string z] w fun e w' => e = .returned (.int .i64 (ixN n f z)) ∧ w = w' := by
  obtain ⟨a, cap, rfl, -, hc⟩ := h
  have HC := Lib.hid hc
  clear hc
  go_enter Try.func43, Try.ntmps43
  go_wp2
  go_loop [5] (fun i => ∃ k : Nat, k ≤ n ∧ i = .int .i64 k ∧ Hid (ixI f z k (n - k) = ixN n f z)) (fun i => n - (intOf i).toNat)
  case atStart => exact ⟨0, by omega, rfl, Lib.hid rfl⟩
  case round =>
    obtain ⟨k, hk, rfl, rH⟩ := hrel
    by_cases hlt : k < n
    · obtain ⟨b, o, rfl, hx, hcc⟩ := HC.out k hlt
      obtain ⟨c0, -, -, -⟩ := hcc
      have i0 : (0 : Int) ≤ (k : Int) := by omega
      have i1 : (k : Int) < (n : Int) := by omega
      have hh := fun h => ix_hit (f := f) (z := z) (k := k) (d := n - k) h (by omega)
      have hs := fun h => ix_step (f := f) (z := z) (k := k) (d := n - (k + 1)) h
      rw [show n - (k + 1) + 1 = n - k by omega] at hs
      obtain ⟨C, hC⟩ : ∃ C, (f k).code = C := ⟨_, rfl⟩
      rw [hC] at c0 hh hs
      clear hC
      cases hq : (C.toList == z.toList) with
      | true =>
        have HR := Lib.hid ((hh hq).symm.trans rH.out)
        clear hh hs
        go_wp2
        go_ret
        exact ⟨ret_int HR.out, rfl⟩
      | false =>
        have HR := Lib.hid ((hs hq).symm.trans rH.out)
        clear hh hs
        go_wp2
        go_round
        case rel => exact ⟨k + 1, by omega, by go_num, HR⟩
        case measure => simp [intOf]; omega
    · obtain rfl : k = n := by omega
      have HR : Hid (-1 = ixN k f z) := Lib.hid (by have := rH.out; rw [Nat.sub_self] at this; exact this)
      go_wp2
      go_ret
      exact ⟨ret_int HR.out, rfl⟩
/-- The closure tells whether a station has the name. -/
theorem named_any (z : ByteArray) (G : Nat) (c p : ByteArray) (g d : Int) (w : World) (hz : w.cell? ⟨G, 0, none⟩ = some (.string z)) (hG : G < w.heap.size) :
    Calls Try.prog 58 #[.agg #[.string c, .string p, .int .i64 g, .int .i64 d], .pointer (some ⟨G, 0, none⟩)] w fun e w' => e = .returned (.bool (c.toList == z.toList)) ∧ Below w.heap.size w w' := by
  have b0 := (Below.refl w.heap.size w).alloc (Nat.le_refl _) (.cells #[.string c, .string p, .int .i64 g, .int .i64 d] 30)
  have hz' : (w.alloc (.cells #[.string c, .string p, .int .i64 g, .int .i64 d] 30)).cell? ⟨G, 0, none⟩ = some (.string z) := (b0.cell (p := ⟨G, 0, none⟩) hG).trans hz
  go_enter Try.func58, Try.ntmps58
  go_wp2
  go_ret
  exact ⟨rfl, b0⟩
set_option maxHeartbeats 1600000 in
theorem indexFn_any (v : Value) (n : Nat) (f : Nat → Usr) (z : ByteArray) (G : Nat) (w : World) (h : UsrsC w v n f) (hn : n ≤ 1048576) (hz : w.cell? ⟨G, 0, none⟩ = some (.string z)) (hG : G < w.heap.size)
    (eg : ∀ args w, (callFunc 58 args).run Try.prog w = .ok (.enter 58 args) w) :
    Calls Try.prog 57 #[v, .func (.func 58) #[] #[.pointer (some ⟨G, 0, none⟩)]] w fun e w' => e = .returned (.int .i64 (ixN n f z)) ∧ Below w.heap.size w w' := by
  obtain ⟨a, cap, rfl, -, hc⟩ := h
  have HC := Lib.hid hc
  have HZ := Lib.hid hz
  clear hc hz
  go_enter Try.func57, Try.ntmps57
  go_wp2
  go_loopw [8] (fun i wr => ∃ k : Nat, k ≤ n ∧ i = .int .i64 k ∧ Hid (ixI f z k (n - k) = ixN n f z) ∧ Below w.heap.size w wr) (fun i _ => n - (intOf i).toNat)
  case atStart => exact ⟨0, by omega, rfl, Lib.hid rfl, Below.refl _ _⟩
  case round =>
    obtain ⟨k, hk, rfl, rH, rb⟩ := hrel
    by_cases hlt : k < n
    · obtain ⟨b, o, rfl, hx, hcc⟩ := HC.out k hlt
      obtain ⟨c0, c1, c2, c3⟩ := hcc.below rb hx
      have i0 : (0 : Int) ≤ (k : Int) := by omega
      have i1 : (k : Int) < (n : Int) := by omega
      have hh := fun h => ix_hit (f := f) (z := z) (k := k) (d := n - k) h (by omega)
      have hs := fun h => ix_step (f := f) (z := z) (k := k) (d := n - (k + 1)) h
      rw [show n - (k + 1) + 1 = n - k by omega] at hs
      have hcall := named_any z G (f k).code (f k).data (f k).gain (f k).delay wr ((rb.cell (p := ⟨G, 0, none⟩) hG).trans HZ.out) (Nat.lt_of_lt_of_le hG rb.size)
      obtain ⟨C, hC⟩ : ∃ C, (f k).code = C := ⟨_, rfl⟩
      rw [hC] at c0 hh hs hcall
      clear hC
      have HCL := Lib.hid hcall
      clear hcall
      cases hq : (C.toList == z.toList) with
      | true =>
        have HR := Lib.hid ((hh hq).symm.trans rH.out)
        clear hh hs rH
        go_wp2_with fail
        have hcl := HCL.out
        rw [hq] at hcl
        clear hq
        refine hcl.mono ?_
        rintro e w1 ⟨rfl, hb1⟩
        have b1 := below_then rb (Nat.le_refl _) hb1
        clear hcl hb1 rb c0 c1 c2 c3
        go_wp2
        go_ret
        exact ⟨ret_int HR.out, b1⟩
      | false =>
        have HR := Lib.hid ((hs hq).symm.trans rH.out)
        clear hh hs rH
        go_wp2_with fail
        have hcl := HCL.out
        rw [hq] at hcl
        clear hq
        refine hcl.mono ?_
        rintro e w1 ⟨rfl, hb1⟩
        have b1 := below_then rb (Nat.le_refl _) hb1
        clear hcl hb1 rb c0 c1 c2 c3
        go_wp2
        go_roundw
        case rel => exact ⟨k + 1, by omega, by go_num, HR, b1⟩
        case measure => simp [intOf]; omega
    · obtain rfl : k = n := by omega
      have HR : Hid (-1 = ixN k f z) := Lib.hid (by have := rH.out; rw [Nat.sub_self] at this; exact this)
      go_wp2
      go_ret
      exact ⟨ret_int HR.out, rb⟩
theorem indexOf_any (v : Value) (n : Nat) (f : Nat → Usr) (z : ByteArray) (w : World) (h : UsrsC w v n f) (hn : n ≤ 1048576) :
    Calls Try.prog 38 #[v, .string z] w fun e w' => e = .returned (.int .i64 (ixN n f z)) ∧ Below w.heap.size w w' := by
  have b0 := (Below.refl w.heap.size w).alloc (Nat.le_refl _) (.cells #[.string z] 9)
  have HI := Lib.hid (h.below b0)
  have hz : (w.alloc (.cells #[.string z] 9)).cell? ⟨w.heap.size, 0, none⟩ = some (.string z) := by simp
  have hG : w.heap.size < (w.alloc (.cells #[.string z] 9)).heap.size := by simp
  have HF := Lib.hid (fun W h hz hG => indexFn_any v n f z w.heap.size W h hn hz hG (enters_of Try.func58 (by kernel_rfl) rfl))
  have HZ := Lib.hid hz
  clear hz h
  obtain ⟨a, cap, rfl, -⟩ := HI.out
  go_enter Try.func38, Try.ntmps38
  go_wp2_with fail
  refine (HF.out _ HI.out HZ.out hG).mono ?_
  rintro e w1 ⟨rfl, b1⟩
  have r1 := below_then b0 (Nat.le_refl _) b1
  clear b1 b0
  go_wp2
  go_ret
  exact ⟨rfl, r1⟩
end Go.Proofs.Ytjnipbopimpggab
