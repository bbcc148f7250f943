/- FreePaths and AllocateTree of both sides, and the walks of their exact laws. -/
import Derived.Test.YtgkiilpcobgboaaFam2
import Derived.Test.YtgkiilpcobgboaaStrs
import Derived.Test.YtgkiilpcobgboaaStrFrame
namespace Go.Proofs.Ytgkiilpcobgboaa
open Go.RowKit
set_option linter.unusedVariables false
/-- A path without conflict with the used ones. -/
def freeB (n : Nat) (f : Nat → ByteArray) (p : ByteArray) : Bool := (List.range n).all fun j => !confB p (f j)
theorem freeB_succ (n : Nat) (f : Nat → ByteArray) (p : ByteArray) : freeB (n + 1) f p = (freeB n f p && !confB p (f n)) := by
  unfold freeB; rw [List.range_succ, List.all_append]; simp
theorem freeB_bad {n k : Nat} {f : Nat → ByteArray} {p : ByteArray} (hk : k < n) (h : confB p (f k) = true) : freeB n f p = false := by
  unfold freeB
  rw [List.all_eq_false]
  exact ⟨k, List.mem_range.2 hk, by rw [h]; simp⟩
def allPath (n : Nat) (f : Nat → ByteArray) : Bool := (List.range n).all fun j => pathB (f j)
theorem allPath_succ (n : Nat) (f : Nat → ByteArray) : allPath (n + 1) f = (allPath n f && pathB (f n)) := by
  unfold allPath; rw [List.range_succ, List.all_append]; simp
theorem allPath_bad {n k : Nat} {f : Nat → ByteArray} (hk : k < n) (h : pathB (f k) = false) : allPath n f = false := by
  unfold allPath
  rw [List.all_eq_false]
  exact ⟨k, List.mem_range.2 hk, by rw [h]; simp⟩
theorem allPath_at {n : Nat} {f : Nat → ByteArray} (h : allPath n f = true) (k : Nat) (hk : k < n) : pathB (f k) = true := by
  unfold allPath at h
  rw [List.all_eq_true] at h
  exact h k (List.mem_range.2 hk)
def usedB (n : Nat) (f : Nat → ByteArray) (d : Int) : Bool := decide (n ≤ 70) && ((decide (0 ≤ d) && decide (d ≤ 6)) && allPath n f)
theorem usedB_iff (n : Nat) (f : Nat → ByteArray) (d : Int) : usedB n f d = true ↔ n ≤ 70 ∧ (0 ≤ d ∧ d ≤ 6) ∧ allPath n f = true := by
  unfold usedB; simp only [Bool.and_eq_true, decide_eq_true_eq]
set_option maxRecDepth 100000 in
theorem iUsed_any (v : Value) (n : Nat) (f : Nat → ByteArray) (d : Int) (w : World) (h : Strs w v n f) (hn : n ≤ 1048576) (hf : ∀ i, i < n → (f i).size ≤ 1048576) :
    Calls Try.prog 17 #[v, .int .i64 d] w fun e w' => e = .returned (.bool (usedB n f d)) ∧ w = w' := by
  obtain ⟨a, cap, rfl, hc⟩ := h
  have HC := Lib.hid hc
  have HF := Lib.hid hf
  clear hc hf
  by_cases h70 : n ≤ 70
  · by_cases hd : 0 ≤ d ∧ d ≤ 6
    · rw [show usedB n f d = allPath n f by unfold usedB; rw [decide_eq_true h70, decide_eq_true hd.1, decide_eq_true hd.2]; rfl]
      go_enter Try.func17, Try.ntmps17
      go_wp2_with fail
      refine (orderValid_yes _ _ hd.1 hd.2).mono ?_
      rintro e w' ⟨rfl, rfl⟩
      go_wp2
      go_loop [17] (fun i => ∃ k : Nat, k ≤ n ∧ i = .int .i64 k ∧ Hid (allPath k f = true)) (fun i => n - (intOf i).toNat)
      case atStart => exact ⟨0, by omega, rfl, Lib.hid rfl⟩
      case round =>
        obtain ⟨k, hk, rfl, rI⟩ := hrel
        by_cases hlt : k < n
        · obtain ⟨x, rfl, hx, hcc⟩ := HC.out k hlt
          have hs := HF.out k hlt
          have hP := fun w => pathValid_any (f k) w (by omega)
          have hsu := allPath_succ k f
          have hbad := allPath_bad (f := f) hlt
          rw [rI.out, Bool.true_and] at hsu
          obtain ⟨y, hy⟩ : ∃ y, f k = y := ⟨_, rfl⟩
          rw [hy] at hcc hP hsu hbad
          have i0 : (0 : Int) ≤ (k : Int) := by omega
          have i1 : (k : Int) < (n : Int) := by omega
          have HP := Lib.hid hP
          clear hy hP hx hs
          go_wp2_with fail
          refine (HP.out _).mono ?_
          rintro e w' ⟨rfl, rfl⟩
          cases hb : pathB y with
          | false =>
            have HB := Lib.hid (hbad hb).symm
            clear hb hsu hbad rI
            go_wp2
            go_ret
            exact ⟨ret_bool HB.out, rfl⟩
          | true =>
            have HB := Lib.hid (hsu.trans hb)
            clear hb hsu hbad rI
            go_wp2
            go_round
            case rel => exact ⟨k + 1, by omega, by go_num, HB⟩
            case measure => simp [intOf]; omega
        · obtain rfl : k = n := by omega
          go_wp2
          go_ret
          exact ⟨ret_bool rI.out.symm, rfl⟩
    · rw [show usedB n f d = false by
        cases hb : usedB n f d with
        | false => rfl
        | true => exact absurd ((usedB_iff n f d).1 hb).2.1 hd]
      go_enter Try.func17, Try.ntmps17
      go_wp2_with fail
      refine (orderValid_no _ _ hd).mono ?_
      rintro e w' ⟨rfl, rfl⟩
      go_wp2
      go_ret
      exact ⟨rfl, rfl⟩
  · rw [show usedB n f d = false by unfold usedB; rw [decide_eq_false h70]; rfl]
    go_enter Try.func17, Try.ntmps17
    go_wp2
    go_ret
    exact ⟨rfl, rfl⟩
set_option maxRecDepth 100000 in
theorem l3Used_any (v : Value) (n : Nat) (f : Nat → ByteArray) (d : Int) (w : World) (h : Strs w v n f) (hn : n ≤ 1048576) (hf : ∀ i, i < n → (f i).size ≤ 1048576) :
    Calls Try.prog 19 #[v, .int .i64 d] w fun e w' => e = .returned (.bool (usedB n f d)) ∧ w = w' := by
  obtain ⟨a, cap, rfl, hc⟩ := h
  have HC := Lib.hid hc
  have HF := Lib.hid hf
  clear hc hf
  go_enter Try.func19, Try.ntmps19
  go_wp2
  go_loop [5] (fun i => ∃ k : Nat, k ≤ n ∧ i = .int .i64 k ∧ Hid (allPath k f = true)) (fun i => n - (intOf i).toNat)
  case atStart => exact ⟨0, by omega, rfl, Lib.hid rfl⟩
  case round =>
    obtain ⟨k, hk, rfl, rI⟩ := hrel
    by_cases hlt : k < n
    · obtain ⟨x, rfl, hx, hcc⟩ := HC.out k hlt
      have hs := HF.out k hlt
      have hP := fun w => l3Path_any (f k) w (by omega)
      have hsu := allPath_succ k f
      have hbad := allPath_bad (f := f) hlt
      rw [rI.out, Bool.true_and] at hsu
      obtain ⟨y, hy⟩ : ∃ y, f k = y := ⟨_, rfl⟩
      rw [hy] at hcc hP hsu hbad
      have i0 : (0 : Int) ≤ (k : Int) := by omega
      have i1 : (k : Int) < (n : Int) := by omega
      have HP := Lib.hid hP
      clear hy hP hx hs
      go_wp2_with fail
      refine (HP.out _).mono ?_
      rintro e w' ⟨rfl, rfl⟩
      cases hb : pathB y with
      | false =>
        have HB : Hid (false = usedB n f d) := Lib.hid (by unfold usedB; rw [hbad hb]; simp)
        clear hb hsu hbad rI
        go_wp2
        go_ret
        exact ⟨ret_bool HB.out, rfl⟩
      | true =>
        have HB := Lib.hid (hsu.trans hb)
        clear hb hsu hbad rI
        go_wp2
        go_round
        case rel => exact ⟨k + 1, by omega, by go_num, HB⟩
        case measure => simp [intOf]; omega
    · obtain rfl : k = n := by omega
      by_cases hd : 0 ≤ d ∧ d ≤ 6
      · have HB : Hid (decide ((k : Int) ≤ 70) = usedB k f d) := Lib.hid (by unfold usedB; rw [rI.out, decide_eq_true hd.1, decide_eq_true hd.2]; simp; omega)
        clear rI
        go_wp2_with fail
        refine (l1In_yes _ 0 6 _ hd.1 hd.2).mono ?_
        rintro e w' ⟨rfl, rfl⟩
        go_wp2
        go_ret
        exact ⟨ret_bool HB.out, rfl⟩
      · have HB : Hid (false = usedB k f d) := Lib.hid (by
          cases hb : usedB k f d with
          | false => rfl
          | true => exact absurd ((usedB_iff k f d).1 hb).2.1 hd)
        clear rI
        go_wp2_with fail
        refine (l1In_no _ 0 6 _ hd).mono ?_
        rintro e w' ⟨rfl, rfl⟩
        go_wp2
        go_ret
        exact ⟨ret_bool HB.out, rfl⟩
/-- The free paths among the first k ones. -/
def frL (n : Nat) (f : Nat → ByteArray) (d k : Nat) : List ByteArray := ((List.range k).filter fun i => freeB n f (digS i d)).map fun i => digS i d
theorem frL_yes {n : Nat} {f : Nat → ByteArray} {d k : Nat} (h : freeB n f (digS k d) = true) : frL n f d (k + 1) = frL n f d k ++ [digS k d] := by
  unfold frL; rw [List.range_succ, List.filter_append, List.map_append]; simp [h]
theorem frL_no {n : Nat} {f : Nat → ByteArray} {d k : Nat} (h : freeB n f (digS k d) = false) : frL n f d (k + 1) = frL n f d k := by
  unfold frL; rw [List.range_succ, List.filter_append, List.map_append]; simp [h]
theorem frL_len (n : Nat) (f : Nat → ByteArray) (d k : Nat) : (frL n f d k).length ≤ k := by
  unfold frL; rw [List.length_map]; exact Nat.le_trans (List.length_filter_le _ _) (by simp)
/-- A list of strings by index. -/
def LS (l : List ByteArray) (j : Nat) : ByteArray := l.getD j ⟨#[]⟩
theorem SF.snoc {w : World} {B : Nat} {v : Value} {l : List ByteArray} {y : ByteArray} (h : SF w B v (l.length + 1) (fun j => if j < l.length then LS l j else y)) : SF w B v (l ++ [y]).length (LS (l ++ [y])) := by
  rw [List.length_append, List.length_singleton]
  refine h.congr fun j hj => ?_
  unfold LS
  by_cases e : j < l.length
  · rw [if_pos e, List.getD_eq_getElem?_getD, List.getD_eq_getElem?_getD, List.getElem?_append_left e]
  · rw [if_neg e, List.getD_eq_getElem?_getD, List.getElem?_append_right (by omega), show j - l.length = 0 by omega]; rfl
set_option maxRecDepth 100000 in
theorem isFree_any (p : ByteArray) (v : Value) (n : Nat) (f : Nat → ByteArray) (w : World) (h : Strs w v n f) (hp : p.size ≤ 1048576) (hn : n ≤ 1048576) (hf : ∀ i, i < n → (f i).size ≤ 1048576) :
    Calls Try.prog 24 #[.string p, v] w fun e w' => e = .returned (.bool (freeB n f p)) ∧ ∃ m, w' = w.drewN m := by
  obtain ⟨a, cap, rfl, hc⟩ := h
  have HC := Lib.hid hc
  have HF := Lib.hid hf
  clear hc hf
  go_enter Try.func24, Try.ntmps24
  go_wp2
  go_loopw [9] (fun i wr => ∃ k m : Nat, k ≤ n ∧ i = .int .i64 k ∧ wr = w.drewN m ∧ Hid (freeB k f p = true)) (fun i _ => n - (intOf i).toNat)
  case atStart => exact ⟨0, 0, by omega, rfl, rfl, Lib.hid rfl⟩
  case round =>
    obtain ⟨k, m, hk, rfl, rfl, rI⟩ := hrel
    by_cases hlt : k < n
    · obtain ⟨x, rfl, hx, hcc⟩ := HC.out k hlt
      have hs := HF.out k hlt
      have hP := fun w => iConf_any p (f k) w (by omega) (by omega)
      have hsu := freeB_succ k f p
      have hbad := freeB_bad (f := f) (p := p) hlt
      rw [rI.out, Bool.true_and] at hsu
      have hcc' : (w.drewN m).cell? (x.add k) = some (.string (f k)) := hcc
      obtain ⟨y, hy⟩ : ∃ y, f k = y := ⟨_, rfl⟩
      rw [hy] at hcc' hP hsu hbad
      obtain ⟨W, hW⟩ : ∃ W, w.drewN m = W := ⟨_, rfl⟩
      rw [hW] at hcc' ⊢
      have HW := Lib.hid hW
      have i0 : (0 : Int) ≤ (k : Int) := by omega
      have i1 : (k : Int) < (n : Int) := by omega
      have HP := Lib.hid hP
      clear hy hP hx hs hcc hW
      go_wp2_with fail
      refine (HP.out _).mono ?_
      rintro e w' ⟨rfl, m2, rfl⟩
      cases hb : confB p y with
      | true =>
        have HB := Lib.hid (hbad hb).symm
        clear hb hsu hbad rI
        go_wp2
        go_ret
        exact ⟨ret_bool HB.out, m + m2, by rw [← HW.out, World.drewN_drewN]⟩
      | false =>
        have HB : Hid (freeB (k + 1) f p = true) := Lib.hid (by rw [hsu, hb]; rfl)
        clear hb hsu hbad rI hcc'
        go_wp2
        go_roundw
        case rel => exact ⟨k + 1, m + m2, by omega, by go_num, by rw [← HW.out, World.drewN_drewN], HB⟩
        case measure => simp [intOf]; omega
    · obtain rfl : k = n := by omega
      go_wp2
      go_ret
      exact ⟨ret_bool rI.out.symm, m, rfl⟩
set_option maxHeartbeats 1600000 in
set_option maxRecDepth 100000 in
theorem iFree_any (v : Value) (n : Nat) (f : Nat → ByteArray) (d : Nat) (w : World) (h : Strs w v n f) (hd : d ≤ 6) (hn : n ≤ 1048576) (hf : ∀ i, i < n → (f i).size ≤ 1048576) :
    Calls Try.prog 18 #[v, .int .i64 d] w fun e w' => ∃ v', e = .returned v' ∧ SF w' w.heap.size v' (frL n f d (tw d)).length (LS (frL n f d (tw d))) ∧ Below w.heap.size w w' := by
  have hw := wrap_tw60 d (by omega)
  have hT : tw d ≤ 64 := Nat.pow_le_pow_right (n := 2) (by omega) hd
  obtain ⟨T, hTT⟩ : ∃ T, tw d = T := ⟨_, rfl⟩
  rw [hTT] at hw hT ⊢
  have HH := Lib.hid h
  have HW := Lib.hid hw
  have HI := Lib.hid (fun (k : Nat) w hS => isFree_any (digS k d) v n f w hS (by rw [digS_size]; omega) hn hf)
  clear hTT h hf hw
  go_enter Try.func18, Try.ntmps18
  go_wp2
  go_loopw [5, 10] (fun o i wr => ∃ k : Nat, k ≤ T ∧ i = .int .i64 k ∧ SF wr w.heap.size o (frL n f d k).length (LS (frL n f d k)) ∧ Below w.heap.size w wr) (fun _ i _ => T - (intOf i).toNat)
  case atStart => exact ⟨0, by omega, rfl, SF.nil _ _ _, Below.refl _ _⟩
  case round =>
    obtain ⟨k, hk, rfl, rO, rb⟩ := hrel
    have hln := frL_len n f d k
    by_cases hlt : k < T
    · have hlw : (k : Int) < wrap64 ((2 : Int) ^ d) := by rw [HW.out]; omega
      have hI := fun w hS => HI.out k w hS
      have hyes := fun h => frL_yes (n := n) (f := f) (d := d) (k := k) h
      have hno := fun h => frL_no (n := n) (f := f) (d := d) (k := k) h
      have hD := fun w => digitsOf_any k d w (by omega) (by omega)
      have hz := digS_size k d
      obtain ⟨z, hzz⟩ : ∃ z, digS k d = z := ⟨_, rfl⟩
      rw [hzz] at hI hyes hno hD hz
      obtain ⟨R, hR⟩ : ∃ R, frL n f d k = R := ⟨_, rfl⟩
      rw [hR] at rO hyes hno hln
      have HD := Lib.hid hD
      have HII := Lib.hid hI
      clear hzz hR hD hI
      go_wp2_with fail
      refine (HD.out _).mono ?_
      rintro e w1 ⟨rfl, hb1⟩
      have b1 := below_then rb (Nat.le_refl _) hb1
      have O1 := rO.below hb1
      have s1 := HH.out.below b1
      clear hb1 rb rO
      go_wp2_with fail
      refine (HII.out _ s1).mono ?_
      rintro e w2 ⟨rfl, m, hm⟩
      have b2 : Below w.heap.size w w2 := by rw [hm]; exact below_drewN b1 m
      have O2 := O1.drewN m
      rw [← hm] at O2
      clear hm b1 O1 s1
      cases hv : freeB n f z with
      | true =>
        have HE := Lib.hid (hyes hv)
        clear hv hyes hno
        have bs := b2.size
        go_wp2_with (at_builtin; refine wpList_append_str rfl (.tmp 19) (.tmp 21) rfl w.heap.size _ R.length (LS R) rfl (O2.alloc _) w2.heap.size 1 z rfl (by simp) (by omega) (by simp; omega) ?_; intro v' w3 O3 g3; have b3 : Below w.heap.size w w3 := (b2.alloc bs _).grown g3 (by simp; omega) (fun q hq => (O2.lt q hq).1); have O4 := SF.snoc O3; clear O2 g3 b2 O3)
        go_roundw
        case rel => exact ⟨k + 1, by omega, by go_num, by rw [HE.out]; exact O4, b3⟩
        case measure => simp [intOf]; omega
      | false =>
        have HE := Lib.hid (hno hv)
        clear hv hyes hno
        go_wp2
        go_roundw
        case rel => exact ⟨k + 1, by omega, by go_num, by rw [HE.out]; exact O2, b2⟩
        case measure => simp [intOf]; omega
    · obtain rfl : k = T := by omega
      have hlw : ¬ ((k : Int) < wrap64 ((2 : Int) ^ d)) := by rw [HW.out]; omega
      go_wp2
      go_ret
      exact ⟨_, rfl, rO, rb⟩
end Go.Proofs.Ytgkiilpcobgboaa
