/- Contracts of BalanceOf, CrossOf and AutoOf, of both sides. -/
import Derived.Test.YtlcnlhephhbhcaaSeqFun
namespace Go.Proofs.Ytlcnlhephhbhcaa
open Go.RowKit
set_option linter.unusedVariables false
/-- What BalanceOf answers. -/
def balAns (z : ByteArray) : Int × Bool := if seqB z then (balN z, true) else noI
/-- What CrossOf answers. -/
def crossAns (a b : ByteArray) (k : Int) : Int × Bool := if pairB a b then (crossN a b (modN k b.size), true) else noI
theorem turned_cells {w' : World} {g : Nat} {z : ByteArray} (hR : Bytes w' g 5 (2 * z.size) (fun i => zb z (i % z.size))) (k : Int) (h : 1 ≤ z.size) :
    ∀ i, i < z.size → w'.cell? ⟨g, modN k z.size + i, none⟩ = some (.int .u8 (shB z (modN k z.size) i : Nat)) := fun i hi => by
  have hm := modN_lt k z.size (by omega)
  exact hR.cell _ (by omega)
set_option maxRecDepth 100000 in
theorem iCross_yes (a b : ByteArray) (k : Int) (w : World) (h : pairB a b = true) :
    Calls Try.prog 120 #[.string a, .string b, .int .i64 k] w fun e w' => e = .returned (.tuple #[.int .i64 (crossN a b (modN k b.size)), .bool true]) ∧ Below w.heap.size w w' := by
  obtain ⟨h1, h2, h3⟩ := (pairB_iff a b).1 h
  have a12 := size_le h1
  have b12 := size_le h2
  have hm := modN_lt k b.size (by omega)
  have ht := fun w => turned_any b k w b12.1 b12.2
  have HC := Lib.hid (fun (w' : World) (g : Nat) (hR : Bytes w' g 5 (2 * b.size) (fun i => zb b (i % b.size))) => turned_cells hR k b12.1)
  have HK := Lib.hid (fun (w : World) (g off cap : Nat) (hc : ∀ i, i < a.size → w.cell? ⟨g, off + i, none⟩ = some (.int .u8 (shB b (modN k b.size) i : Nat))) => corrB_any a g off cap (shB b (modN k b.size)) w a12.2 hc)
  have HN := Lib.hid h3
  rw [← h3] at ht
  clear h1 h2 h3
  go_enter Try.func120, Try.ntmps120
  go_wp2_with fail
  refine (iPair_yes a b _ h).mono ?_
  rintro e w1 ⟨rfl, rfl⟩
  go_wp2_with fail
  refine (ht _).mono ?_
  rintro e w1 ⟨rfl, hR, hB⟩
  have hc := HC.out w1 w.heap.size (by rw [← HN.out]; exact hR)
  have HR := Lib.hid (HK.out w1 w.heap.size (modN k a.size) a.size (fun i hi => by have := hc i (by rw [← HN.out]; exact hi); rw [HN.out]; exact this))
  clear hR hc h
  go_wp2_with fail
  refine HR.out.mono ?_
  rintro e w2 ⟨rfl, n, rfl⟩
  go_wp2
  go_ret2
  exact ⟨rfl, below_drewN hB _⟩
set_option maxRecDepth 100000 in
theorem iCross_any (a b : ByteArray) (k : Int) (w : World) (ha : a.size ≤ 9223372036854775807) (hb : b.size ≤ 9223372036854775807) :
    Calls Try.prog 120 #[.string a, .string b, .int .i64 k] w fun e w' => e = .returned (.tuple #[.int .i64 (crossAns a b k).1, .bool (crossAns a b k).2]) ∧ Below w.heap.size w w' := by
  cases h : pairB a b with
  | true => rw [show crossAns a b k = (crossN a b (modN k b.size), true) by unfold crossAns; rw [h]; rfl]; exact iCross_yes a b k w h
  | false =>
    rw [show crossAns a b k = noI by unfold crossAns; rw [h]; rfl]
    go_enter Try.func120, Try.ntmps120
    go_wp2_with (first | (go_at_call 128; refine (iPair_no a b _ ha hb h).mono ?_; rintro e w1 ⟨rfl, rfl⟩))
    go_ret2
    exact ⟨rfl, Below.refl _ _⟩
def autoAns (z : ByteArray) (k : Int) : Int × Bool := crossAns z z k
end Go.Proofs.Ytlcnlhephhbhcaa
