/- FreePaths and AllocateTree of both sides, and the walks of their exact laws. -/
import Derived.Test.YtgkiilpcobgboaaFamFree
namespace Go.Proofs.Ytgkiilpcobgboaa
open Go.RowKit
set_option linter.unusedVariables false
theorem digS_path (k d : Nat) (hd : d ≤ 6) : pathB (digS k d) = true := by
  refine (pathB_iff _).2 ⟨okB_of_zb _ fun i hi => ?_, by rw [digS_size]; exact hd⟩
  rw [digS_size] at hi
  unfold digS
  rw [zb_strF hi (digF_lt _ _ _)]
  unfold digF
  omega
set_option maxHeartbeats 3200000 in
set_option maxRecDepth 100000 in
theorem sFree_any (v : Value) (n : Nat) (f : Nat → ByteArray) (d : Nat) (w : World) (h : Strs w v n f) (hd : d ≤ 6) (hn : n ≤ 1048576) (hf : ∀ i, i < n → (f i).size ≤ 1048576) (hall : allPath n f = true) :
    Calls Try.prog 20 #[v, .int .i64 d] w fun e w' => ∃ v', e = .returned v' ∧ SF w' w.heap.size v' (frL n f d (tw d)).length (LS (frL n f d (tw d))) ∧ Below w.heap.size w w' := by
  have hw := fun w => l1Two_big d w (by omega)
  have hT : tw d ≤ 64 := Nat.pow_le_pow_right (n := 2) (by omega) hd
  obtain ⟨T, hTT⟩ : ∃ T, tw d = T := ⟨_, rfl⟩
  rw [hTT] at hw hT ⊢
  obtain ⟨a, cap, rfl, hc⟩ := h
  have HC := Lib.hid hc
  have HW := Lib.hid hw
  have HF := Lib.hid hf
  have HP := Lib.hid (fun (k j : Nat) (hj : j < n) => show confB (digS k d) (f j) = begB (digS k d) (f j) by unfold confB; rw [digS_path k d hd, allPath_at hall j hj]; rfl)
  clear hTT hc hf hw hall
  go_enter Try.func20, Try.ntmps20
  go_wp2
  go_loopw [5, 6] (fun o i wr => ∃ k : Nat, k ≤ T ∧ i = .int .i64 k ∧ SF wr w.heap.size o (frL n f d k).length (LS (frL n f d k)) ∧ Below w.heap.size w wr) (fun _ i _ => T - (intOf i).toNat)
  case atStart => exact ⟨0, by omega, rfl, SF.empty _ _, (Below.refl _ _).alloc (Nat.le_refl _) _⟩
  case round =>
    obtain ⟨k, hk, rfl, rO, rb⟩ := hrel
    have hln := frL_len n f d k
    go_wp2_with fail
    refine (HW.out _).mono ?_
    rintro e w' ⟨rfl, rfl⟩
    by_cases hlt : k < T
    · have hyes := fun h => frL_yes (n := n) (f := f) (d := d) (k := k) h
      have hno := fun h => frL_no (n := n) (f := f) (d := d) (k := k) h
      have hP := fun j hj => HP.out k j hj
      have hz := digS_size k d
      have hsz : strF d (digF k d) = digS k d := rfl
      obtain ⟨z, hzz⟩ : ∃ z, digS k d = z := ⟨_, rfl⟩
      rw [hzz] at hyes hno hP hz hsz
      obtain ⟨R, hR⟩ : ∃ R, frL n f d k = R := ⟨_, rfl⟩
      rw [hR] at rO hyes hno hln
      have HPP := Lib.hid hP
      have HY := Lib.hid hyes
      have HN := Lib.hid hno
      have HZ := Lib.hid hsz
      clear hR hP hyes hno hsz hzz
      go_wp2_with fail
      go_loopw [7, 8] (fun s i wr2 => ∃ j : Nat, j ≤ d ∧ i = .int .i64 ((d : Int) - 1 - (j : Int)) ∧ s = .string (strF j (digF k d)) ∧ Below wr.heap.size wr wr2) (fun _ i _ => (intOf i + 1).toNat)
      case atStart => exact ⟨0, by omega, by simp <;> omega, rfl, Below.refl _ _⟩
      case round =>
        rename_i wr2
        obtain ⟨j, hj, rfl, rfl, rb2⟩ := hrel
        by_cases hjl : j < d
        · obtain ⟨q, hq⟩ : ∃ q, d - 1 - j = q := ⟨_, rfl⟩
          have ed : (d : Int) - 1 - (j : Int) = (q : Int) := by omega
          obtain ⟨D, B, v1, v2, hB2, v3⟩ := sdig_value k q (by omega) (by omega)
          have hs := strF_snoc j (digF k d) (48 + B) (by unfold digF; rw [hq, v3]) (digF_lt k d)
          have hz0 := strF_size j (digF k d)
          have hz1 := strF_size 1 (fun _ => 48 + B)
          have hL := fun w => l9Dec_bit B w (by omega)
          obtain ⟨S, hS⟩ : ∃ S, strF j (digF k d) = S := ⟨_, rfl⟩
          obtain ⟨y, hy⟩ : ∃ y, strF 1 (fun _ => 48 + B) = y := ⟨_, rfl⟩
          rw [hS, hy] at hs
          rw [hS] at hz0 ⊢
          rw [hy] at hz1 hL
          rw [ed]
          have p1 := tw_pos q
          have p2 : (1 : Int) ≤ ((tw q : Nat) : Int) := by omega
          have HS := Lib.hid hs
          have HD := Lib.hid hq
          have hq60 : q ≤ 60 := by omega
          clear hS hy hs v3 ed hq p1
          go_wp2_with fail
          refine (l1Two_big q _ hq60).mono ?_
          rintro e w' ⟨rfl, rfl⟩
          go_wp2_with fail
          refine (hL _).mono ?_
          rintro e w1 ⟨rfl, hb1⟩
          have b1 := below_then rb2 (Nat.le_refl _) hb1
          clear hb1 rb2 hL v1 v2
          go_wp2
          go_roundw
          case rel => exact ⟨j + 1, by omega, by have := HD.out; first | go_num | (congr 1; omega), by rw [HS.out], b1⟩
          case measure => simp [intOf] <;> omega
        · obtain rfl : j = d := by omega
          have O2 := rO.below rb2
          have b2 := below_then rb (Nat.le_refl _) rb2
          rw [HZ.out]
          clear rO rb rb2
          go_wp2_with fail
          go_loopw [9, 10] (fun g i wr3 => ∃ q m : Nat, q ≤ n ∧ i = .int .i64 q ∧ g = .bool (freeB q f z) ∧ wr3 = wr.drewN m) (fun _ i _ => n - (intOf i).toNat)
          case atStart => exact ⟨0, 0, by omega, rfl, rfl, rfl⟩
          case round =>
            obtain ⟨q, m, hq, rfl, rfl, rfl⟩ := hrel
            have O3 := O2.drewN m
            have b3 := below_drewN b2 m
            by_cases hql : q < n
            · obtain ⟨x, rfl, hx, hcc⟩ := HC.out q hql
              have hcc' : (wr.drewN m).cell? (x.add q) = some (.string (f q)) := (b3.cell (p := x.add q) (by rw [add_block]; exact hx)).trans hcc
              have hfs := HF.out q hql
              have hC := fun w => l3Conflict_any z (f q) w (by omega) (by omega)
              have hsu := freeB_succ q f z
              rw [HPP.out q hql] at hsu
              obtain ⟨y, hy⟩ : ∃ y, f q = y := ⟨_, rfl⟩
              rw [hy] at hcc' hC hsu
              obtain ⟨bb, hbb⟩ : ∃ bb, begB z y = bb := ⟨_, rfl⟩
              rw [hbb] at hC hsu
              obtain ⟨W, hW⟩ : ∃ W, wr.drewN m = W := ⟨_, rfl⟩
              rw [hW] at hcc' ⊢
              have HWW := Lib.hid hW
              have HCC := Lib.hid hC
              have i0 : (0 : Int) ≤ (q : Int) := by omega
              have i1 : (q : Int) < (n : Int) := by omega
              clear hy hbb hW hC hx hcc hfs O3 b3
              cases hfr : freeB q f z with
              | true =>
                rw [hfr, Bool.true_and] at hsu
                have HSU := Lib.hid hsu
                clear hsu hfr
                go_wp2_with fail
                refine (HCC.out _).mono ?_
                rintro e w' ⟨rfl, m2, rfl⟩
                clear hcc'
                go_wp2
                go_roundw
                case rel => exact ⟨q + 1, m + m2, by omega, by go_num, by rw [HSU.out], by rw [← HWW.out, World.drewN_drewN]⟩
                case measure => simp [intOf]; omega
              | false =>
                rw [hfr, Bool.false_and] at hsu
                have HSU := Lib.hid hsu
                clear hsu hfr hcc'
                go_wp2
                go_roundw
                case rel => exact ⟨q + 1, m, by omega, by go_num, by rw [HSU.out], HWW.out.symm⟩
                case measure => simp [intOf]; omega
            · obtain rfl : q = n := by omega
              obtain ⟨W, hW⟩ : ∃ W, wr.drewN m = W := ⟨_, rfl⟩
              rw [hW] at O3 b3 ⊢
              clear hW O2 b2
              cases hv : freeB q f z with
              | true =>
                have HE := Lib.hid (HY.out hv)
                clear hv
                have bs := b3.size
                go_wp2_with (at_builtin; refine wpList_append_str rfl (.tmp 49) (.tmp 51) rfl w.heap.size _ R.length (LS R) rfl (O3.alloc _) W.heap.size 1 z rfl (by simp) (by omega) (by simp; omega) ?_; intro v' w3 O4 g3; have b4 : Below w.heap.size w w3 := (b3.alloc bs _).grown g3 (by simp; omega) (fun q hq => (O3.lt q hq).1); have O5 := SF.snoc O4; clear O3 g3 b3 O4)
                go_roundw
                case rel => exact ⟨k + 1, by omega, by go_num, by rw [HE.out]; exact O5, b4⟩
                case measure => simp [intOf]; omega
              | false =>
                have HE := Lib.hid (HN.out hv)
                clear hv
                go_wp2
                go_roundw
                case rel => exact ⟨k + 1, by omega, by go_num, by rw [HE.out]; exact O3, b3⟩
                case measure => simp [intOf]; omega
    · obtain rfl : k = T := by omega
      go_wp2
      go_ret
      exact ⟨_, rfl, rO, rb⟩
def freeAns (n : Nat) (f : Nat → ByteArray) (D : Int) : Int := if usedB n f D then ((frL n f D.toNat (tw D.toNat)).length : Nat) else -1
def allocAns (n : Nat) (f : Nat → ByteArray) (D : Int) : ByteArray × Bool := if usedB n f D then (if (frL n f D.toNat (tw D.toNat)).length = 0 then noS else (LS (frL n f D.toNat (tw D.toNat)) 0, true)) else noS
set_option maxRecDepth 100000 in
theorem iPaths_any (v : Value) (n : Nat) (f : Nat → ByteArray) (D : Int) (w : World) (h : Strs w v n f) (hn : n ≤ 1048576) (hf : ∀ i, i < n → (f i).size ≤ 1048576) :
    Calls Try.prog 8 #[v, .int .i64 D] w fun e w' => e = .returned (.int .i64 (freeAns n f D)) ∧ Below w.heap.size w w' := by
  have hU := fun w hS => iUsed_any v n f D w hS hn hf
  unfold freeAns
  cases hu : usedB n f D with
  | false =>
    rw [hu] at hU
    have HU := Lib.hid hU
    have h' := Lib.hid h
    clear hU hu h
    go_enter Try.func8, Try.ntmps8
    go_wp2_with fail
    refine (HU.out _ h'.out).mono ?_
    rintro e w' ⟨rfl, rfl⟩
    go_wp2
    go_ret
    exact ⟨rfl, Below.refl _ _⟩
  | true =>
    obtain ⟨_, hd, _⟩ := (usedB_iff n f D).1 hu
    obtain ⟨d, rfl⟩ : ∃ d : Nat, D = d := ⟨D.toNat, by omega⟩
    rw [hu] at hU
    have HU := Lib.hid hU
    have HF := Lib.hid (fun w hS => iFree_any v n f d w hS (by omega) hn hf)
    have h' := Lib.hid h
    simp only [Int.toNat_natCast]
    obtain ⟨R, hR⟩ : ∃ R, frL n f d (tw d) = R := ⟨_, rfl⟩
    rw [hR] at HF ⊢
    clear hU hu h hR
    go_enter Try.func8, Try.ntmps8
    go_wp2_with fail
    refine (HU.out _ h'.out).mono ?_
    rintro e w' ⟨rfl, rfl⟩
    go_wp2_with fail
    refine (HF.out _ h'.out).mono ?_
    rintro e w1 ⟨v', rfl, O1, hb⟩
    obtain ⟨a, cap, rfl, -⟩ := O1.form
    clear O1
    go_wp2
    go_ret
    exact ⟨rfl, hb⟩
set_option maxRecDepth 100000 in
theorem sPaths_any (v : Value) (n : Nat) (f : Nat → ByteArray) (D : Int) (w : World) (h : Strs w v n f) (hn : n ≤ 1048576) (hf : ∀ i, i < n → (f i).size ≤ 1048576) :
    Calls Try.prog 9 #[v, .int .i64 D] w fun e w' => e = .returned (.int .i64 (freeAns n f D)) ∧ Below w.heap.size w w' := by
  have hU := fun w hS => l3Used_any v n f D w hS hn hf
  unfold freeAns
  cases hu : usedB n f D with
  | false =>
    rw [hu] at hU
    have HU := Lib.hid hU
    have h' := Lib.hid h
    clear hU hu h
    go_enter Try.func9, Try.ntmps9
    go_wp2_with fail
    refine (HU.out _ h'.out).mono ?_
    rintro e w' ⟨rfl, rfl⟩
    go_wp2
    go_ret
    exact ⟨rfl, Below.refl _ _⟩
  | true =>
    obtain ⟨_, hd, hall⟩ := (usedB_iff n f D).1 hu
    obtain ⟨d, rfl⟩ : ∃ d : Nat, D = d := ⟨D.toNat, by omega⟩
    rw [hu] at hU
    have HU := Lib.hid hU
    have HF := Lib.hid (fun w hS => sFree_any v n f d w hS (by omega) hn hf hall)
    have h' := Lib.hid h
    simp only [Int.toNat_natCast]
    obtain ⟨R, hR⟩ : ∃ R, frL n f d (tw d) = R := ⟨_, rfl⟩
    rw [hR] at HF ⊢
    clear hU hu h hR hall
    go_enter Try.func9, Try.ntmps9
    go_wp2_with fail
    refine (HU.out _ h'.out).mono ?_
    rintro e w' ⟨rfl, rfl⟩
    go_wp2_with fail
    refine (HF.out _ h'.out).mono ?_
    rintro e w1 ⟨v', rfl, O1, hb⟩
    obtain ⟨a, cap, rfl, -⟩ := O1.form
    clear O1
    go_wp2
    go_ret
    exact ⟨rfl, hb⟩
set_option maxRecDepth 100000 in
theorem iAlloc_any (v : Value) (n : Nat) (f : Nat → ByteArray) (D : Int) (w : World) (h : Strs w v n f) (hn : n ≤ 1048576) (hf : ∀ i, i < n → (f i).size ≤ 1048576) :
    Calls Try.prog 6 #[v, .int .i64 D] w fun e w' => e = .returned (.tuple #[.string (allocAns n f D).1, .bool (allocAns n f D).2]) ∧ Below w.heap.size w w' := by
  have hU := fun w hS => iUsed_any v n f D w hS hn hf
  unfold allocAns
  cases hu : usedB n f D with
  | false =>
    rw [hu] at hU
    have HU := Lib.hid hU
    have h' := Lib.hid h
    clear hU hu h
    go_enter Try.func6, Try.ntmps6
    go_wp2_with fail
    refine (HU.out _ h'.out).mono ?_
    rintro e w' ⟨rfl, rfl⟩
    go_wp2
    go_ret2
    exact ⟨rfl, Below.refl _ _⟩
  | true =>
    obtain ⟨_, hd, _⟩ := (usedB_iff n f D).1 hu
    obtain ⟨d, rfl⟩ : ∃ d : Nat, D = d := ⟨D.toNat, by omega⟩
    rw [hu] at hU
    have HU := Lib.hid hU
    have HF := Lib.hid (fun w hS => iFree_any v n f d w hS (by omega) hn hf)
    have h' := Lib.hid h
    simp only [Int.toNat_natCast]
    obtain ⟨R, hR⟩ : ∃ R, frL n f d (tw d) = R := ⟨_, rfl⟩
    rw [hR] at HF ⊢
    clear hU hu h hR
    by_cases h0 : R.length = 0
    · rw [if_pos h0]
      rw [h0] at HF
      go_enter Try.func6, Try.ntmps6
      go_wp2_with fail
      refine (HU.out _ h'.out).mono ?_
      rintro e w' ⟨rfl, rfl⟩
      go_wp2_with fail
      refine (HF.out _ h'.out).mono ?_
      rintro e w1 ⟨v', rfl, O1, hb⟩
      obtain ⟨a, cap, rfl, -⟩ := O1.form
      clear O1
      go_wp2
      go_ret2
      exact ⟨rfl, hb⟩
    · rw [if_neg h0]
      have h00 : (((R.length : Nat) : Int) == 0) = false := by rw [beq_eq_false_iff_ne]; omega
      have h01 : (0 : Int) < ((R.length : Nat) : Int) := by omega
      go_enter Try.func6, Try.ntmps6
      go_wp2_with fail
      refine (HU.out _ h'.out).mono ?_
      rintro e w' ⟨rfl, rfl⟩
      go_wp2_with fail
      refine (HF.out _ h'.out).mono ?_
      rintro e w1 ⟨v', rfl, O1, hb⟩
      obtain ⟨a, cap, rfl, ha⟩ := O1.form
      obtain ⟨g, rfl, -, -, hc⟩ := ha (by omega)
      have hc0 := (hc 0 (by omega)).1
      obtain ⟨y, hy⟩ : ∃ y, LS R 0 = y := ⟨_, rfl⟩
      rw [hy] at hc0
      have HY := Lib.hid hy
      clear O1 ha hc hy
      go_wp2
      go_ret2
      exact ⟨by rw [HY.out]; rfl, hb⟩
set_option maxRecDepth 100000 in
theorem sAlloc_any (v : Value) (n : Nat) (f : Nat → ByteArray) (D : Int) (w : World) (h : Strs w v n f) (hn : n ≤ 1048576) (hf : ∀ i, i < n → (f i).size ≤ 1048576) :
    Calls Try.prog 7 #[v, .int .i64 D] w fun e w' => e = .returned (.tuple #[.string (allocAns n f D).1, .bool (allocAns n f D).2]) ∧ Below w.heap.size w w' := by
  have hU := fun w hS => l3Used_any v n f D w hS hn hf
  unfold allocAns
  cases hu : usedB n f D with
  | false =>
    rw [hu] at hU
    have HU := Lib.hid hU
    have h' := Lib.hid h
    clear hU hu h
    go_enter Try.func7, Try.ntmps7
    go_wp2_with fail
    refine (HU.out _ h'.out).mono ?_
    rintro e w' ⟨rfl, rfl⟩
    go_wp2
    go_ret2
    exact ⟨rfl, Below.refl _ _⟩
  | true =>
    obtain ⟨_, hd, hall⟩ := (usedB_iff n f D).1 hu
    obtain ⟨d, rfl⟩ : ∃ d : Nat, D = d := ⟨D.toNat, by omega⟩
    rw [hu] at hU
    have HU := Lib.hid hU
    have HF := Lib.hid (fun w hS => sFree_any v n f d w hS (by omega) hn hf hall)
    have h' := Lib.hid h
    simp only [Int.toNat_natCast]
    obtain ⟨R, hR⟩ : ∃ R, frL n f d (tw d) = R := ⟨_, rfl⟩
    rw [hR] at HF ⊢
    clear hU hu h hR hall
    by_cases h0 : R.length = 0
    · rw [if_pos h0]
      rw [h0] at HF
      go_enter Try.func7, Try.ntmps7
      go_wp2_with fail
      refine (HU.out _ h'.out).mono ?_
      rintro e w' ⟨rfl, rfl⟩
      go_wp2_with fail
      refine (HF.out _ h'.out).mono ?_
      rintro e w1 ⟨v', rfl, O1, hb⟩
      obtain ⟨a, cap, rfl, -⟩ := O1.form
      clear O1
      go_wp2
      go_ret2
      exact ⟨rfl, hb⟩
    · rw [if_neg h0]
      have h00 : (((R.length : Nat) : Int) == 0) = false := by rw [beq_eq_false_iff_ne]; omega
      have h01 : (0 : Int) < ((R.length : Nat) : Int) := by omega
      go_enter Try.func7, Try.ntmps7
      go_wp2_with fail
      refine (HU.out _ h'.out).mono ?_
      rintro e w' ⟨rfl, rfl⟩
      go_wp2_with fail
      refine (HF.out _ h'.out).mono ?_
      rintro e w1 ⟨v', rfl, O1, hb⟩
      obtain ⟨a, cap, rfl, ha⟩ := O1.form
      obtain ⟨g, rfl, -, -, hc⟩ := ha (by omega)
      have hc0 := (hc 0 (by omega)).1
      obtain ⟨y, hy⟩ : ∃ y, LS R 0 = y := ⟨_, rfl⟩
      rw [hy] at hc0
      have HY := Lib.hid hy
      clear O1 ha hc hy
      go_wp2
      go_ret2
      exact ⟨by rw [HY.out]; rfl, hb⟩
end Go.Proofs.Ytgkiilpcobgboaa
