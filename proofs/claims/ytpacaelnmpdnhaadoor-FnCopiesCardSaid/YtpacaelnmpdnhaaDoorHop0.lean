/- Hops of both sides: which numbers are hops. -/
import Derived.Test.YtpacaelnmpdnhaaDoorSig
namespace Go.Proofs.YtpacaelnmpdnhaaDoor
open Go.RowKit
set_option linter.unusedVariables false
set_option maxRecDepth 100000
def inC (C x : Int) : Bool := decide (0 ≤ x) && decide (x < C)
theorem inC_iff (C x : Int) : inC C x = true ↔ 0 ≤ x ∧ x < C := by unfold inC; simp only [Bool.and_eq_true, decide_eq_true_eq]
def allC (n : Nat) (f : Nat → Int) (C : Int) : Bool := (List.range n).all fun j => inC C (f j)
theorem allC_succ (n : Nat) (f : Nat → Int) (C : Int) : allC (n + 1) f C = (allC n f C && inC C (f n)) := by unfold allC; rw [List.range_succ, List.all_append]; simp
theorem allC_bad {n k : Nat} {f : Nat → Int} {C : Int} (hk : k < n) (h : inC C (f k) = false) : allC n f C = false := by
  unfold allC
  rw [List.all_eq_false]
  exact ⟨k, List.mem_range.2 hk, by rw [h]; simp⟩
theorem allC_iff (n : Nat) (f : Nat → Int) (C : Int) : allC n f C = true ↔ ∀ k, k < n → 0 ≤ f k ∧ f k < C := by
  unfold allC
  rw [List.all_eq_true]
  constructor
  · exact fun h k hk => (inC_iff _ _).1 (h k (List.mem_range.2 hk))
  · exact fun h k hk => (inC_iff _ _).2 (h k (List.mem_range.1 hk))
/-- A number of channels; hops of so many. -/
def chB (C : Int) : Bool := decide (1 ≤ C) && decide (C ≤ 16)
theorem chB_iff (C : Int) : chB C = true ↔ 1 ≤ C ∧ C ≤ 16 := by unfold chB; simp only [Bool.and_eq_true, decide_eq_true_eq]
def hopB (n : Nat) (f : Nat → Int) (C : Int) : Bool := chB C && decide (n ≤ 300) && allC n f C
theorem hopB_iff (n : Nat) (f : Nat → Int) (C : Int) : hopB n f C = true ↔ (1 ≤ C ∧ C ≤ 16) ∧ n ≤ 300 ∧ ∀ k, k < n → 0 ≤ f k ∧ f k < C := by
  unfold hopB
  simp only [Bool.and_eq_true, decide_eq_true_eq, chB_iff, allC_iff, and_assoc]
theorem hopB_no1 {n : Nat} {f : Nat → Int} {C : Int} (h : chB C = false) : false = hopB n f C := by unfold hopB; rw [h]; rfl
theorem hopB_no2 {n : Nat} {f : Nat → Int} {C : Int} (h : ¬ n ≤ 300) : false = hopB n f C := by unfold hopB; rw [decide_eq_false h, Bool.and_false]; rfl
theorem hopB_bad {n k : Nat} {f : Nat → Int} {C : Int} (hk : k < n) (h : inC C (f k) = false) : false = hopB n f C := by unfold hopB; rw [allC_bad hk h, Bool.and_false]
theorem hopB_16 (n : Nat) (f : Nat → Int) : hopB n f 16 = (allC n f 16 && decide (n ≤ 300)) := by unfold hopB; rw [show chB 16 = true from rfl, Bool.true_and, Bool.and_comm]
theorem hopB_below {n : Nat} {f : Nat → Int} {C : Int} (h : hopB n f C = true) : hopB n f 16 = true := by
  rw [hopB_iff] at h ⊢
  exact ⟨by omega, h.2.1, fun k hk => by have := h.2.2 k hk; omega⟩
theorem iCh_any (C : Int) (w : World) :
    Calls Tryd.prog 76 #[.int .i64 C] w fun e w' => e = .returned (.bool (chB C)) ∧ w = w' := by
  by_cases h1 : 1 ≤ C
  · go_enter Tryd.func76, Tryd.ntmps76
    go_wp2
    go_ret
    exact ⟨ret_bool (by simp [chB, h1]), rfl⟩
  · go_enter Tryd.func76, Tryd.ntmps76
    go_wp2
    go_ret
    exact ⟨ret_bool (by unfold chB; rw [decide_eq_false (by omega : ¬ 1 ≤ C)]; rfl), rfl⟩
theorem iCnt_any (C : Int) (w : World) :
    Calls Tryd.prog 77 #[.int .i64 C] w fun e w' => e = .returned (.bool (decide (0 ≤ C) && decide (C ≤ 300))) ∧ w = w' := by
  by_cases h1 : 0 ≤ C
  · go_enter Tryd.func77, Tryd.ntmps77
    go_wp2
    go_ret
    exact ⟨ret_bool (by simp [h1]), rfl⟩
  · go_enter Tryd.func77, Tryd.ntmps77
    go_wp2
    go_ret
    exact ⟨ret_bool (by rw [decide_eq_false (by omega : ¬ 0 ≤ C)]; rfl), rfl⟩
theorem iHops_any (v : Value) (n : Nat) (z : Nat → Int) (C : Int) (w : World) (h : IntsR w v n z) (hn : n ≤ 1048576) :
    Calls Tryd.prog 67 #[v, .int .i64 C] w fun e w' => e = .returned (.bool (hopB n z C)) ∧ w = w' := by
  obtain ⟨a, cap, rfl, hc⟩ := h
  have HC := Lib.hid hc
  have hch := fun w => iCh_any C w
  clear hc
  cases hC : chB C with
  | false =>
    rw [hC] at hch
    have HCH := Lib.hid hch
    have HE := Lib.hid (hopB_no1 (n := n) (f := z) hC)
    clear hch hC
    go_enter Tryd.func67, Tryd.ntmps67
    go_wp2_with fail
    refine (HCH.out _).mono ?_
    rintro e w' ⟨rfl, rfl⟩
    go_wp2
    go_ret
    exact ⟨ret_bool HE.out, rfl⟩
  | true =>
    rw [hC] at hch
    have HCH := Lib.hid hch
    by_cases hl : n ≤ 300
    · have hcn := fun w => iCnt_any (n : Int) w
      rw [decide_eq_true (show (0 : Int) ≤ (n : Int) by omega), decide_eq_true (show (n : Int) ≤ 300 by omega), Bool.true_and] at hcn
      have HCN := Lib.hid hcn
      have HB := Lib.hid (fun k (hk : k < n) h => hopB_bad (f := z) (C := C) hk h)
      have HS := Lib.hid (fun k => allC_succ k z C)
      have HE := Lib.hid (show allC n z C = hopB n z C by unfold hopB; rw [hC, decide_eq_true hl]; rfl)
      clear hch hC hcn
      go_enter Tryd.func67, Tryd.ntmps67
      go_wp2_with fail
      refine (HCH.out _).mono ?_
      rintro e w' ⟨rfl, rfl⟩
      go_wp2_with fail
      refine (HCN.out _).mono ?_
      rintro e w' ⟨rfl, rfl⟩
      go_wp2
      go_loop [18] (fun i => ∃ k : Nat, k ≤ n ∧ i = .int .i64 k ∧ Hid (allC k z C = true)) (fun i => n - (intOf i).toNat)
      case atStart => exact ⟨0, by omega, rfl, Lib.hid rfl⟩
      case round =>
        obtain ⟨k, hk, rfl, rA⟩ := hrel
        by_cases hlt : k < n
        · obtain ⟨x, rfl, hx, hcc⟩ := HC.out k hlt
          have hb := HB.out k hlt
          have hs := HS.out k
          rw [rA.out, Bool.true_and] at hs
          have hi : inC C (z k) = (decide (0 ≤ z k) && decide (z k < C)) := rfl
          obtain ⟨y, hy⟩ : ∃ y, z k = y := ⟨_, rfl⟩
          rw [hy] at hcc hb hs hi
          have i0 : (0 : Int) ≤ (k : Int) := by omega
          have i1 : (k : Int) < (n : Int) := by omega
          clear hy hx rA
          by_cases h1 : 0 ≤ y
          · by_cases h2 : y < C
            · rw [decide_eq_true h1, decide_eq_true h2] at hi
              have l1 : ¬ (y < 0) := by omega
              have l2 : ¬ (C ≤ y) := by omega
              have nA := Lib.hid (hs.trans hi)
              clear hb hs hi
              go_wp2
              go_round
              case rel => exact ⟨k + 1, by omega, by go_num, nA⟩
              case measure => simp [intOf]; omega
            · rw [decide_eq_true h1, decide_eq_false h2] at hi
              have l1 : ¬ (y < 0) := by omega
              have l2 : C ≤ y := by omega
              have HA := Lib.hid (hb hi)
              clear hb hs hi
              go_wp2
              go_ret
              exact ⟨ret_bool HA.out, rfl⟩
          · rw [decide_eq_false h1] at hi
            have l1 : (y < 0) := by omega
            have HA := Lib.hid (hb hi)
            clear hb hs hi
            go_wp2
            go_ret
            exact ⟨ret_bool HA.out, rfl⟩
        · obtain rfl : k = n := by omega
          have HA := Lib.hid (rA.out.symm.trans HE.out)
          clear rA
          go_wp2
          go_ret
          exact ⟨ret_bool HA.out, rfl⟩
    · have hcn := fun w => iCnt_any (n : Int) w
      rw [decide_eq_true (show (0 : Int) ≤ (n : Int) by omega), decide_eq_false (show ¬ (n : Int) ≤ 300 by omega), Bool.true_and] at hcn
      have HCN := Lib.hid hcn
      have HE := Lib.hid (hopB_no2 (f := z) (C := C) hl)
      clear hch hC hcn
      go_enter Tryd.func67, Tryd.ntmps67
      go_wp2_with fail
      refine (HCH.out _).mono ?_
      rintro e w' ⟨rfl, rfl⟩
      go_wp2_with fail
      refine (HCN.out _).mono ?_
      rintro e w' ⟨rfl, rfl⟩
      go_wp2
      go_ret
      exact ⟨ret_bool HE.out, rfl⟩
theorem sCh_any (C : Int) (w : World) :
    Calls Tryd.prog 72 #[.int .i64 C] w fun e w' => e = .returned (.bool (chB C)) ∧ w = w' := by
  have HI := Lib.hid (fun w => l1In_any C 1 16 w)
  go_enter Tryd.func72, Tryd.ntmps72
  go_wp2_with fail
  refine (HI.out _).mono ?_
  rintro e w' ⟨rfl, rfl⟩
  go_wp2
  go_ret
  exact ⟨rfl, rfl⟩
theorem sHops16_any (v : Value) (n : Nat) (z : Nat → Int) (w : World) (h : IntsR w v n z) (hn : n ≤ 1048576) :
    Calls Tryd.prog 56 #[v] w fun e w' => e = .returned (.bool (hopB n z 16)) ∧ w = w' := by
  obtain ⟨a, cap, rfl, hc⟩ := h
  have HC := Lib.hid hc
  have HB := Lib.hid (fun k (hk : k < n) h => hopB_bad (f := z) (C := 16) hk h)
  have HS := Lib.hid (fun k => allC_succ k z 16)
  have HI := Lib.hid (fun x w => l1In_any x 0 15 w)
  have HE := Lib.hid (hopB_16 n z)
  clear hc
  go_enter Tryd.func56, Tryd.ntmps56
  go_wp2
  go_loop [3] (fun i => ∃ k : Nat, k ≤ n ∧ i = .int .i64 k ∧ Hid (allC k z 16 = true)) (fun i => n - (intOf i).toNat)
  case atStart => exact ⟨0, by omega, rfl, Lib.hid rfl⟩
  case round =>
    obtain ⟨k, hk, rfl, rA⟩ := hrel
    by_cases hlt : k < n
    · obtain ⟨x, rfl, hx, hcc⟩ := HC.out k hlt
      have hb := HB.out k hlt
      have hs := HS.out k
      rw [rA.out, Bool.true_and] at hs
      have hi : inC 16 (z k) = (decide (0 ≤ z k) && decide (z k ≤ 15)) := by unfold inC; rw [show decide (z k < 16) = decide (z k ≤ 15) from decide_eq_decide.2 (by omega)]
      obtain ⟨y, hy⟩ : ∃ y, z k = y := ⟨_, rfl⟩
      rw [hy] at hcc hb hs hi
      have i0 : (0 : Int) ≤ (k : Int) := by omega
      have i1 : (k : Int) < (n : Int) := by omega
      have hI := fun w => HI.out y w
      rw [← hi] at hI
      clear hy hx rA hi
      cases hv : inC 16 y with
      | true =>
        rw [hv] at hI
        have nA := Lib.hid (hs.trans hv)
        have HII := Lib.hid hI
        clear hb hs hI
        go_wp2_with fail
        refine (HII.out _).mono ?_
        rintro e w' ⟨rfl, rfl⟩
        go_wp2
        go_round
        case rel => exact ⟨k + 1, by omega, by go_num, nA⟩
        case measure => simp [intOf]; omega
      | false =>
        rw [hv] at hI
        have HA := Lib.hid (hb hv)
        have HII := Lib.hid hI
        clear hb hs hI
        go_wp2_with fail
        refine (HII.out _).mono ?_
        rintro e w' ⟨rfl, rfl⟩
        go_wp2
        go_ret
        exact ⟨ret_bool HA.out, rfl⟩
    · obtain rfl : k = n := by omega
      have HA := Lib.hid rA.out
      clear rA
      go_wp2
      go_ret
      exact ⟨ret_bool (by rw [HE.out, HA.out, Bool.true_and, Bool.eq_iff_iff]; simp; omega), rfl⟩
theorem val_same {P : Program} {f : FuncId} {args : Array Value} {w : World} {r : Ending} (h : Calls P f args w fun e w' => e = r ∧ w = w') : Calls P f args w fun e w' => e = r ∧ Below w.heap.size w w' :=
  h.mono fun e w' ⟨he, hw⟩ => ⟨he, hw ▸ Below.refl _ _⟩
theorem iHops_b (v : Value) (n : Nat) (z : Nat → Int) (C : Int) (w : World) (h : IntsR w v n z) (hn : n ≤ 1048576) :
    Calls Tryd.prog 67 #[v, .int .i64 C] w fun e w' => e = .returned (.bool (hopB n z C)) ∧ Below w.heap.size w w' := val_same (iHops_any v n z C w h hn)
theorem modulo_hop (k : Int) (n : Nat) (w : World) (h1 : 1 ≤ n) (h2 : n ≤ 1000000) :
    Calls Tryd.prog 68 #[.int .i64 k, .int .i64 n] w fun e w' => e = .returned (.int .i64 (modN k n : Nat)) ∧ w = w' := by
  have hb := tmod_bd k n (by omega)
  have hn : ¬ ((n : Int) = 0) := by omega
  by_cases h0 : k.tmod n < 0
  · have HR := Lib.hid (tmod_neg k n (by omega) h0)
    go_enter Tryd.func68, Tryd.ntmps68
    go_wp2
    go_ret
    exact ⟨ret_int HR.out, rfl⟩
  · have HR := Lib.hid (tmod_pos k n (by omega) (by omega))
    go_enter Tryd.func68, Tryd.ntmps68
    go_wp2
    go_ret
    exact ⟨ret_int HR.out, rfl⟩
end Go.Proofs.YtpacaelnmpdnhaaDoor
