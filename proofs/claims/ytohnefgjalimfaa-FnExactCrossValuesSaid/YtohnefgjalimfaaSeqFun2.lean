/- Contracts of BalanceOf, CrossOf and AutoOf, of both sides. -/
import Derived.Test.YtohnefgjalimfaaSeqFun
namespace Go.Proofs.Ytohnefgjalimfaa
open Go.RowKit
set_option linter.unusedVariables false
/-- What BalanceOf answers. -/
def balAns (z : ByteArray) : Int × Bool := if seqB z then (balN z, true) else noI
set_option maxRecDepth 100000 in
theorem iBal_yes (z : ByteArray) (w : World) (h : seqB z = true) :
    Calls Try.prog 44 #[.string z] w fun e w' => e = .returned (.tuple #[.int .i64 (balN z), .bool true]) ∧ w = w' := by
  obtain ⟨h1, h2, h3⟩ := (seqB_iff z).1 h
  have HA := Lib.hid (okB_zb z h1)
  have HB := Lib.hid (fun n => sumI_bd (f := fun i => agr (zb z i) 49) (fun i => agr_bd _ _) n)
  clear h1
  go_enter Try.func44, Try.ntmps44
  go_wp2_with (first | (go_at_call 31; refine (iSequenceValid_yes z _ h).mono ?_; rintro e w1 ⟨rfl, rfl⟩))
  go_loop [4, 11] (fun s i => ∃ k : Nat, k ≤ z.size ∧ i = .int .i64 k ∧ s = .int .i64 (sumI (fun i => agr (zb z i) 49) k)) (fun _ i => z.size - (intOf i).toNat)
  case atStart => exact ⟨0, by omega, rfl, rfl⟩
  case round =>
    obtain ⟨k, hk, rfl, rfl⟩ := hrel
    have hbd := HB.out k
    obtain ⟨S, hS⟩ : ∃ S, sumI (fun i => agr (zb z i) 49) k = S := ⟨_, rfl⟩
    rw [hS] at hbd ⊢
    have HS := Lib.hid hS
    clear hS h
    obtain ⟨hb1, hb2⟩ := hbd
    by_cases hlt : k < z.size
    · have HZ := Lib.hid (zb_at z k hlt)
      by_cases he : zb z k = 49
      · have ht : (((z[k].toNat : Nat) : Int) == 49) = true := by rw [HZ.out, he]; rfl
        have HV := Lib.hid (show agr (zb z k) 49 = 1 by unfold agr; rw [if_pos he])
        clear he
        go_wp2
        go_round
        case rel => exact ⟨k + 1, by omega, by go_num, by rw [sumI, HS.out, HV.out]⟩
        case measure => simp [intOf]; omega
      · have ht : (((z[k].toNat : Nat) : Int) == 49) = false := by rw [HZ.out]; simp; omega
        have HV := Lib.hid (show agr (zb z k) 49 = -1 by unfold agr; rw [if_neg he])
        clear he
        go_wp2
        go_round
        case rel => exact ⟨k + 1, by omega, by go_num, by rw [sumI, HS.out, HV.out]; rfl⟩
        case measure => simp [intOf]; omega
    · obtain rfl : k = z.size := by omega
      go_wp2
      go_ret2
      exact ⟨ret_ib (by unfold balN; rw [HS.out]), rfl⟩
set_option maxRecDepth 100000 in
theorem iBal_any (z : ByteArray) (w : World) (hs : z.size ≤ 9223372036854775807) :
    Calls Try.prog 44 #[.string z] w fun e w' => e = .returned (.tuple #[.int .i64 (balAns z).1, .bool (balAns z).2]) ∧ Below w.heap.size w w' := by
  cases h : seqB z with
  | true => rw [show balAns z = (balN z, true) by unfold balAns; rw [h]; rfl]; exact (iBal_yes z w h).mono fun e w' ⟨he, hw⟩ => ⟨he, hw ▸ Below.refl _ _⟩
  | false =>
    rw [show balAns z = noI by unfold balAns; rw [h]; rfl]
    go_enter Try.func44, Try.ntmps44
    go_wp2_with (first | (go_at_call 31; refine (iSequenceValid_no z _ hs h).mono ?_; rintro e w1 ⟨rfl, rfl⟩))
    go_ret2
    exact ⟨rfl, Below.refl _ _⟩
set_option maxRecDepth 100000 in
theorem sBal_any (z : ByteArray) (w : World) (hs : z.size ≤ 9223372036854775807) :
    Calls Try.prog 45 #[.string z] w fun e w' => e = .returned (.tuple #[.int .i64 (balAns z).1, .bool (balAns z).2]) ∧ Below w.heap.size w w' := by
  cases h : seqB z with
  | true =>
    rw [show balAns z = (balN z, true) by unfold balAns; rw [h]; rfl]
    obtain ⟨h1, h2, h3⟩ := (seqB_iff z).1 h
    have HL := Lib.hid (fun w => l2Balance_any z w h1 h3)
    clear h1
    go_enter Try.func45, Try.ntmps45
    go_wp2_with fail
    refine (sSequenceValid_yes z _ h).mono ?_
    rintro e w1 ⟨rfl, rfl⟩
    go_wp2_with fail
    refine (HL.out _).mono ?_
    rintro e w1 ⟨rfl, rfl⟩
    go_wp2
    go_ret2
    exact ⟨rfl, Below.refl _ _⟩
  | false =>
    rw [show balAns z = noI by unfold balAns; rw [h]; rfl]
    go_enter Try.func45, Try.ntmps45
    go_wp2_with (first | (go_at_call 61; refine (sSequenceValid_no z _ hs h).mono ?_; rintro e w1 ⟨rfl, rfl⟩))
    go_ret2
    exact ⟨rfl, Below.refl _ _⟩
/-- What CrossOf answers. -/
def crossAns (a b : ByteArray) (k : Int) : Int × Bool := if pairB a b then (crossN a b (modN k b.size), true) else noI
theorem turned_cells {w' : World} {g : Nat} {z : ByteArray} (hR : Bytes w' g 5 (2 * z.size) (fun i => zb z (i % z.size))) (k : Int) (h : 1 ≤ z.size) :
    ∀ i, i < z.size → w'.cell? ⟨g, modN k z.size + i, none⟩ = some (.int .u8 (shB z (modN k z.size) i : Nat)) := fun i hi => by
  have hm := modN_lt k z.size (by omega)
  exact hR.cell _ (by omega)
set_option maxRecDepth 100000 in
theorem iCross_yes (a b : ByteArray) (k : Int) (w : World) (h : pairB a b = true) :
    Calls Try.prog 42 #[.string a, .string b, .int .i64 k] w fun e w' => e = .returned (.tuple #[.int .i64 (crossN a b (modN k b.size)), .bool true]) ∧ Below w.heap.size w w' := by
  obtain ⟨h1, h2, h3⟩ := (pairB_iff a b).1 h
  have a12 := size_le h1
  have b12 := size_le h2
  have hm := modN_lt k b.size (by omega)
  have ht := fun w => turned_any b k w b12.1 b12.2
  have HC := Lib.hid (fun (w' : World) (g : Nat) (hR : Bytes w' g 5 (2 * b.size) (fun i => zb b (i % b.size))) => turned_cells hR k b12.1)
  have HK := Lib.hid (fun (w : World) (g off cap : Nat) (hc : ∀ i, i < a.size → w.cell? ⟨g, off + i, none⟩ = some (.int .u8 (shB b (modN k b.size) i : Nat))) => corrB_any a g off cap (shB b (modN k b.size)) w a12.2 hc)
  have HN := Lib.hid h3
  rw [← h3] at ht
  clear h1 h2 h3
  go_enter Try.func42, Try.ntmps42
  go_wp2_with fail
  refine (iPair_yes a b _ h).mono ?_
  rintro e w1 ⟨rfl, rfl⟩
  go_wp2_with fail
  refine (ht _).mono ?_
  rintro e w1 ⟨rfl, hR, hB⟩
  have hc := HC.out w1 w.heap.size (by rw [← HN.out]; exact hR)
  have HR := Lib.hid (HK.out w1 w.heap.size (modN k a.size) a.size (fun i hi => by have := hc i (by rw [← HN.out]; exact hi); rw [HN.out]; exact this))
  clear hR hc h
  go_wp2_with fail
  refine HR.out.mono ?_
  rintro e w2 ⟨rfl, n, rfl⟩
  go_wp2
  go_ret2
  exact ⟨rfl, below_drewN hB _⟩
set_option maxRecDepth 100000 in
theorem iCross_any (a b : ByteArray) (k : Int) (w : World) (ha : a.size ≤ 9223372036854775807) (hb : b.size ≤ 9223372036854775807) :
    Calls Try.prog 42 #[.string a, .string b, .int .i64 k] w fun e w' => e = .returned (.tuple #[.int .i64 (crossAns a b k).1, .bool (crossAns a b k).2]) ∧ Below w.heap.size w w' := by
  cases h : pairB a b with
  | true => rw [show crossAns a b k = (crossN a b (modN k b.size), true) by unfold crossAns; rw [h]; rfl]; exact iCross_yes a b k w h
  | false =>
    rw [show crossAns a b k = noI by unfold crossAns; rw [h]; rfl]
    go_enter Try.func42, Try.ntmps42
    go_wp2_with (first | (go_at_call 58; refine (iPair_no a b _ ha hb h).mono ?_; rintro e w1 ⟨rfl, rfl⟩))
    go_ret2
    exact ⟨rfl, Below.refl _ _⟩
set_option maxRecDepth 100000 in
theorem sCross_any (a b : ByteArray) (k : Int) (w : World) (ha : a.size ≤ 9223372036854775807) (hb : b.size ≤ 9223372036854775807) :
    Calls Try.prog 43 #[.string a, .string b, .int .i64 k] w fun e w' => e = .returned (.tuple #[.int .i64 (crossAns a b k).1, .bool (crossAns a b k).2]) ∧ Below w.heap.size w w' := by
  cases h : pairB a b with
  | true =>
    rw [show crossAns a b k = (crossN a b (modN k b.size), true) by unfold crossAns; rw [h]; rfl]
    have HL := Lib.hid (fun w => l2Cross_any a b k w h)
    go_enter Try.func43, Try.ntmps43
    go_wp2_with fail
    refine (sPair_yes a b _ h).mono ?_
    rintro e w1 ⟨rfl, rfl⟩
    go_wp2_with fail
    refine (HL.out _).mono ?_
    rintro e w1 ⟨rfl, hB⟩
    go_wp2
    go_ret2
    exact ⟨rfl, hB⟩
  | false =>
    rw [show crossAns a b k = noI by unfold crossAns; rw [h]; rfl]
    go_enter Try.func43, Try.ntmps43
    go_wp2_with (first | (go_at_call 56; refine (sPair_no a b _ ha hb h).mono ?_; rintro e w1 ⟨rfl, rfl⟩))
    go_ret2
    exact ⟨rfl, Below.refl _ _⟩
def autoAns (z : ByteArray) (k : Int) : Int × Bool := crossAns z z k
set_option maxRecDepth 100000 in
theorem iAuto_any (z : ByteArray) (k : Int) (w : World) (hs : z.size ≤ 9223372036854775807) :
    Calls Try.prog 50 #[.string z, .int .i64 k] w fun e w' => e = .returned (.tuple #[.int .i64 (autoAns z k).1, .bool (autoAns z k).2]) ∧ Below w.heap.size w w' := by
  unfold autoAns
  have HL := Lib.hid (fun w => iCross_any z z k w hs hs)
  go_enter Try.func50, Try.ntmps50
  go_wp2_with fail
  refine (HL.out _).mono ?_
  rintro e w1 ⟨rfl, hB⟩
  go_wp2
  go_ret2
  exact ⟨rfl, hB⟩
end Go.Proofs.Ytohnefgjalimfaa
