/- Contracts of AperiodicOf, of both sides. -/
import Derived.Test.YtgfehabpoebaoaaSeqFun
namespace Go.Proofs.Ytgfehabpoebaoaa
open Go.RowKit
set_option linter.unusedVariables false
theorem quiet_drew {P : Program} {f : FuncId} {args : Array Value} {w : World} {n : Nat} {v : Value}
    (h : Calls P f args (w.drewN n) fun e w' => e = .returned v ∧ ∃ m, w' = (w.drewN n).drewN m) : Calls P f args (w.drewN n) fun e w'' => e = .returned v ∧ ∃ m, w'' = w.drewN m :=
  h.mono fun _ _ ⟨he, m, hm⟩ => ⟨he, n + m, by rw [hm, World.drewN_drewN]⟩
set_option maxRecDepth 100000 in
theorem corrS_any (a b : ByteArray) (w : World) (h : a.size ≤ 255) (hab : a.size ≤ b.size) :
    Calls Try.prog 43 #[.string a, .string b] w fun e w' => e = .returned (.int .i64 (sumI (fun i => agr (zb a i) (zb b i)) a.size)) ∧ ∃ n, w' = w.drewN n := by
  have HB := Lib.hid (fun n => sumI_bd (f := fun i => agr (zb a i) (zb b i)) (fun i => agr_bd _ _) n)
  go_enter Try.func43, Try.ntmps43
  go_wp2
  go_loopw [5, 9] (fun s i wr => ∃ k m : Nat, k ≤ a.size ∧ i = .int .i64 k ∧ s = .int .i64 (sumI (fun i => agr (zb a i) (zb b i)) k) ∧ wr = w.drewN m) (fun _ i _ => a.size - (intOf i).toNat)
  case atStart => exact ⟨0, 0, by omega, rfl, rfl, rfl⟩
  case round =>
    obtain ⟨k, m, hk, rfl, rfl, rfl⟩ := hrel
    have hbd := HB.out k
    obtain ⟨S, hS⟩ : ∃ S, sumI (fun i => agr (zb a i) (zb b i)) k = S := ⟨_, rfl⟩
    rw [hS] at hbd ⊢
    have HS := Lib.hid hS
    clear hS
    obtain ⟨hb1, hb2⟩ := hbd
    by_cases hlt : k < a.size
    · have hlb : k < b.size := by omega
      obtain ⟨W, hW⟩ : ∃ W, w.drewN m = W := ⟨_, rfl⟩
      rw [hW]
      have HW := Lib.hid hW
      clear hW
      have i0 : (0 : Int) ≤ (k : Int) := by omega
      have i1 : (k : Int) < (a.size : Int) := by omega
      have i2 : (k : Int) < (b.size : Int) := by omega
      have HZ := Lib.hid (zb_at a k hlt)
      have HY := Lib.hid (zb_at b k hlb)
      by_cases he : zb a k = zb b k
      · have ht : (((a[k].toNat : Nat) : Int) == ((b[k].toNat : Nat) : Int)) = true := by rw [HZ.out, HY.out, he]; simp
        have HV := Lib.hid (show agr (zb a k) (zb b k) = 1 by unfold agr; rw [if_pos he])
        clear he
        go_wp2_with fail
        go_quiet (fail)
        go_wp2
        go_roundw
        case rel => exact ⟨k + 1, m + nq, by omega, by go_num, by rw [sumI, HS.out, HV.out], by rw [← HW.out, World.drewN_drewN]⟩
        case measure => simp [intOf]; omega
      · have ht : (((a[k].toNat : Nat) : Int) == ((b[k].toNat : Nat) : Int)) = false := by rw [HZ.out, HY.out]; simp; omega
        have HV := Lib.hid (show agr (zb a k) (zb b k) = -1 by unfold agr; rw [if_neg he])
        clear he
        go_wp2_with fail
        go_quiet (fail)
        go_wp2
        go_roundw
        case rel => exact ⟨k + 1, m + nq, by omega, by go_num, by rw [sumI, HS.out, HV.out]; rfl, by rw [← HW.out, World.drewN_drewN]⟩
        case measure => simp [intOf]; omega
    · obtain rfl : k = a.size := by omega
      go_wp2
      go_ret
      exact ⟨ret_int HS.out.symm, m, rfl⟩
def aperAns (z : ByteArray) (k : Int) : Int × Bool := if seqB z && (decide (0 ≤ k) && decide (k < z.size)) then (aperN z k.toNat, true) else noI
theorem aperAns_no {z : ByteArray} {k : Int} (h : ¬ (seqB z = true ∧ 0 ≤ k ∧ k < z.size)) : aperAns z k = noI := by
  unfold aperAns
  rw [if_neg]
  intro e
  simp only [Bool.and_eq_true, decide_eq_true_eq] at e
  exact h e
theorem aperAns_yes {z : ByteArray} {k : Nat} (h : seqB z = true) (hk : k < z.size) : aperAns z k = (aperN z k, true) := by
  unfold aperAns
  rw [if_pos (by simp only [Bool.and_eq_true, decide_eq_true_eq]; exact ⟨h, by omega, by omega⟩)]
  rfl
theorem aper_cut (z : ByteArray) (k : Nat) (hk : k < z.size) : sumI (fun i => agr (zb (z.extract 0 (z.size - k)) i) (zb (z.extract k z.size) i)) (z.extract 0 (z.size - k)).size = aperN z k := by
  have s1 := size_extract z 0 (z.size - k) (by omega)
  rw [s1]
  exact sumI_congr _ fun i hi => by rw [zb_extract _ _ _ _ (by omega) (by omega), zb_extract _ _ _ _ (by omega) (by omega), Nat.zero_add]
set_option maxRecDepth 100000 in
theorem iAper_yes (z : ByteArray) (k : Nat) (w : World) (h : seqB z = true) (hk : k < z.size) :
    Calls Try.prog 15 #[.string z, .int .i64 k] w fun e w' => e = .returned (.tuple #[.int .i64 (aperN z k), .bool true]) ∧ Below w.heap.size w w' := by
  have h12 := size_le h
  have hcut := aper_cut z k hk
  have s1 := size_extract z 0 (z.size - k) (by omega)
  have s2 := size_extract z k z.size (by omega)
  have hC := fun w => corrS_any (z.extract 0 (z.size - k)) (z.extract k z.size) w (by omega) (by omega)
  rw [hcut] at hC
  obtain ⟨X, hX⟩ : ∃ X, aperN z k = X := ⟨_, rfl⟩
  rw [hX] at hC ⊢
  clear hX hcut
  obtain ⟨m, hm⟩ : ∃ m, z.size - k = m := ⟨_, rfl⟩
  rw [hm] at hC s1
  have hw : IntKind.i64.wrap ((z.size : Int) - (k : Int)) = (m : Int) := by rw [show (z.size : Int) - (k : Int) = (m : Nat) by omega]; exact IntWalk.i64_in _ (by omega)
  have m0 : (0 : Int) ≤ (m : Int) := by omega
  have m1 : (m : Int) ≤ (z.size : Int) := by omega
  have k0 : (0 : Int) ≤ (k : Int) := by omega
  have k1 : (k : Int) ≤ (z.size : Int) := by omega
  have k2 : ¬ ((k : Int) < 0) := by omega
  have k3 : ¬ ((z.size : Int) ≤ (k : Int)) := by omega
  have HC := Lib.hid hC
  clear hC hm s1 s2
  go_enter Try.func15, Try.ntmps15
  go_wp2_with (first | (go_at_call 12; refine (iSequenceValid_yes z _ h).mono ?_; rintro e w1 ⟨rfl, rfl⟩))
  clear h
  go_quiet ((go_at_call 43; exact quiet_drew (HC.out _)))
  go_wp2
  go_ret2
  exact ⟨rfl, below_drewN (Below.refl _ _) _⟩
set_option maxRecDepth 100000 in
theorem iAper_any (z : ByteArray) (k : Int) (w : World) (hs : z.size ≤ 9223372036854775807) :
    Calls Try.prog 15 #[.string z, .int .i64 k] w fun e w' => e = .returned (.tuple #[.int .i64 (aperAns z k).1, .bool (aperAns z k).2]) ∧ Below w.heap.size w w' := by
  cases h : seqB z with
  | false =>
    rw [aperAns_no (by rw [h]; simp)]
    go_enter Try.func15, Try.ntmps15
    go_wp2_with (first | (go_at_call 12; refine (iSequenceValid_no z _ hs h).mono ?_; rintro e w1 ⟨rfl, rfl⟩))
    go_ret2
    exact ⟨rfl, Below.refl _ _⟩
  | true =>
    by_cases h0 : k < 0
    · rw [aperAns_no (by omega)]
      go_enter Try.func15, Try.ntmps15
      go_wp2_with (first | (go_at_call 12; refine (iSequenceValid_yes z _ h).mono ?_; rintro e w1 ⟨rfl, rfl⟩))
      go_ret2
      exact ⟨rfl, Below.refl _ _⟩
    · by_cases h1 : (z.size : Int) ≤ k
      · rw [aperAns_no (by omega)]
        go_enter Try.func15, Try.ntmps15
        go_wp2_with (first | (go_at_call 12; refine (iSequenceValid_yes z _ h).mono ?_; rintro e w1 ⟨rfl, rfl⟩))
        go_ret2
        exact ⟨rfl, Below.refl _ _⟩
      · obtain ⟨q, rfl⟩ : ∃ q : Nat, k = q := ⟨k.toNat, by omega⟩
        rw [aperAns_yes h (by omega)]
        exact iAper_yes z q w h (by omega)
set_option maxRecDepth 100000 in
theorem sAper_yes (z : ByteArray) (q : Nat) (w : World) (h : seqB z = true) (hq : q < z.size) :
    Calls Try.prog 39 #[.string z, .int .i64 q] w fun e w' => e = .returned (.tuple #[.int .i64 (aperN z q), .bool true]) ∧ Below w.heap.size w w' := by
  have h12 := size_le h
  have q2 : 0 ≤ (q : Int) := by omega
  have q3 : (q : Int) ≤ (z.size : Int) - 1 := by omega
  have HB := Lib.hid (fun n => sumI_bd (f := fun i => agr (zb z i) (zb z (q + i))) (fun i => agr_bd _ _) n)
  go_enter Try.func39, Try.ntmps39
  go_wp2_with (first | (go_at_call 38; refine (sSequenceValid_yes z _ h).mono ?_; rintro e w1 ⟨rfl, rfl⟩) | (go_at_call 40; refine (l1In_yes _ _ _ _ q2 q3).mono ?_; rintro e w1 ⟨rfl, rfl⟩))
  go_loopw [6, 7] (fun s i wr => ∃ k m : Nat, k + q ≤ z.size ∧ i = .int .i64 k ∧ s = .int .i64 (sumI (fun i => agr (zb z i) (zb z (q + i))) k) ∧ wr = w.drewN m) (fun _ i _ => z.size - (intOf i).toNat)
  case atStart => exact ⟨0, 0, by omega, rfl, rfl, rfl⟩
  case round =>
    obtain ⟨k, m, hk, rfl, rfl, rfl⟩ := hrel
    clear h
    have hbd := HB.out k
    obtain ⟨S, hS⟩ : ∃ S, sumI (fun i => agr (zb z i) (zb z (q + i))) k = S := ⟨_, rfl⟩
    rw [hS] at hbd ⊢
    have HS := Lib.hid hS
    clear hS
    obtain ⟨hb1, hb2⟩ := hbd
    by_cases hlt : k + q < z.size
    · have hlb : k < z.size := by omega
      have HZ := Lib.hid (zb_at z k hlb)
      have HY := Lib.hid (zb_at z (k + q) hlt)
      obtain ⟨W, hW⟩ : ∃ W, w.drewN m = W := ⟨_, rfl⟩
      rw [hW]
      have HW := Lib.hid hW
      clear hW
      have i0 : (0 : Int) ≤ (k : Int) := by omega
      have i1 : (k : Int) < (z.size : Int) := by omega
      have i2 : (k : Int) + (q : Int) < (z.size : Int) := by omega
      have i3 : (0 : Int) ≤ (k : Int) + (q : Int) := by omega
      by_cases he : zb z k = zb z (q + k)
      · have ht : (((z[k].toNat : Nat) : Int) == ((z[k + q].toNat : Nat) : Int)) = true := by rw [HZ.out, HY.out, he, Nat.add_comm]; simp
        have HV := Lib.hid (show agr (zb z k) (zb z (q + k)) = 1 by unfold agr; rw [if_pos he])
        clear he
        go_wp2_with fail
        have j0 : IntKind.i64.wrap ((k : Int) + (q : Int)) = (k : Int) + (q : Int) := IntWalk.i64_in _ (by omega)
        have j1 : ((k : Int) + (q : Int)).toNat = k + q := by omega
        go_quiet (fail)
        clear j0
        go_wp2
        go_roundw
        case rel => exact ⟨k + 1, m + nq, by omega, by go_num, by rw [sumI, HS.out, HV.out], by rw [← HW.out, World.drewN_drewN]⟩
        case measure => simp [intOf]; omega
      · have ht : (((z[k].toNat : Nat) : Int) == ((z[k + q].toNat : Nat) : Int)) = false := by rw [HZ.out, HY.out, Nat.add_comm k q]; simp; omega
        have HV := Lib.hid (show agr (zb z k) (zb z (q + k)) = -1 by unfold agr; rw [if_neg he])
        clear he
        go_wp2_with fail
        have j0 : IntKind.i64.wrap ((k : Int) + (q : Int)) = (k : Int) + (q : Int) := IntWalk.i64_in _ (by omega)
        have j1 : ((k : Int) + (q : Int)).toNat = k + q := by omega
        go_quiet (fail)
        clear j0
        go_wp2
        go_roundw
        case rel => exact ⟨k + 1, m + nq, by omega, by go_num, by rw [sumI, HS.out, HV.out]; rfl, by rw [← HW.out, World.drewN_drewN]⟩
        case measure => simp [intOf]; omega
    · obtain rfl : k = z.size - q := by omega
      have j3 : ¬ (((z.size - q : Nat) : Int) + (q : Int) < (z.size : Int)) := by omega
      have HE : Hid (S = aperN z q) := Lib.hid HS.out.symm
      obtain ⟨K, hK⟩ : ∃ K, z.size - q = K := ⟨_, rfl⟩
      rw [hK] at j3 ⊢
      have j4 : (K : Int) ≤ 255 := by omega
      clear hK
      go_wp2
      go_ret2
      exact ⟨ret_ib HE.out, below_drewN (Below.refl _ _) _⟩
set_option maxRecDepth 100000 in
theorem sAper_any (z : ByteArray) (k : Int) (w : World) (hs : z.size ≤ 9223372036854775807) :
    Calls Try.prog 39 #[.string z, .int .i64 k] w fun e w' => e = .returned (.tuple #[.int .i64 (aperAns z k).1, .bool (aperAns z k).2]) ∧ Below w.heap.size w w' := by
  cases h : seqB z with
  | false =>
    rw [aperAns_no (by rw [h]; simp)]
    go_enter Try.func39, Try.ntmps39
    go_wp2_with (first | (go_at_call 38; refine (sSequenceValid_no z _ hs h).mono ?_; rintro e w1 ⟨rfl, rfl⟩))
    go_ret2
    exact ⟨rfl, Below.refl _ _⟩
  | true =>
    by_cases h1 : 0 ≤ k ∧ k < z.size
    · obtain ⟨q, rfl⟩ : ∃ q : Nat, k = q := ⟨k.toNat, by omega⟩
      rw [aperAns_yes h (by omega)]
      exact sAper_yes z q w h (by omega)
    · rw [aperAns_no (by omega)]
      have h12 := size_le h
      have h2 : ¬ (0 ≤ k ∧ k ≤ (z.size : Int) - 1) := by omega
      clear h1
      go_enter Try.func39, Try.ntmps39
      go_wp2_with (first | (go_at_call 38; refine (sSequenceValid_yes z _ h).mono ?_; rintro e w1 ⟨rfl, rfl⟩) | (go_at_call 40; refine (l1In_no _ _ _ _ h2).mono ?_; rintro e w1 ⟨rfl, rfl⟩))
      go_ret2
      exact ⟨rfl, Below.refl _ _⟩
end Go.Proofs.Ytgfehabpoebaoaa
