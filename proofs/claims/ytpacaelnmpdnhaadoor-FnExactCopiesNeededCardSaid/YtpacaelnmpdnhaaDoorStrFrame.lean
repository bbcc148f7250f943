/- What the frames share: slices of strings, and of numbers, that came in. -/
import Derived.Test.YtpacaelnmpdnhaaDoorRegFrame
import Derived.Test.YtpacaelnmpdnhaaDoorStrs
import Derived.Deep.Strs
namespace Go.Proofs.YtpacaelnmpdnhaaDoor
open Go.ChangeShapes Go.WideShapes Go.ChangeAt Go.RowKit Go.Joins
open Go.ChangeMaps (open_string shut_string)
set_option linter.unusedVariables false
/-- A slice of strings that came in. -/
def StrsIn (W : World) (a : Option Addr) (len cap : Nat) (z : Nat → ByteArray) : Prop := Strs W (.slice a len cap) len z ∧ len ≤ maxLen ∧ ∀ i, i < len → (z i).size ≤ maxLen
theorem frame_strs {H : Type} {enc : TypeId × Value → H} {W : World} {a : Option Addr} {len cap : Nat} {d : DataW H} {p : List MemPlace}
    (h : DataW.Trod enc Tryd.prog W 0 (fun _ => true) true 24 (.slice a len cap) d p) : ∃ z, StrsIn W a len cap z := by
  obtain ⟨fuel, hf⟩ := h
  rcases Go.Deep.open_strs Tryd.underlying24 Tryd.underlying9 (by kernel_rfl) hf with ⟨hcs, _⟩ | ⟨x, l, c, m, Sx, hcs, _, hl, hm, hmm, _, hc⟩
  · simp [Value.cells] at hcs
    obtain ⟨rfl, rfl, rfl⟩ := hcs
    exact ⟨fun _ => ⟨#[]⟩, ⟨none, 0, rfl, fun i hi => absurd hi (Nat.not_lt_zero i)⟩, Nat.zero_le _, fun i hi => absurd hi (Nat.not_lt_zero i)⟩
  · simp [Value.cells] at hcs
    obtain ⟨rfl, rfl, rfl⟩ := hcs
    have hm2 : len ≤ m := by rw [hmm]; simpa using hl
    refine ⟨Sx, ⟨some x, cap, rfl, fun i hi => ⟨x, rfl, ?_, (hc i (by omega)).1⟩⟩, Nat.le_trans hl hm, fun i hi => (hc i (by omega)).2⟩
    have := block_lt_of_cell (hc i (by omega)).1
    rwa [add_block] at this
/-- A slice of numbers that came in. -/
def IntsIn (W : World) (a : Option Addr) (len cap : Nat) (z : Nat → Int) : Prop := len ≤ maxLen ∧ ∀ i, i < len → (Lit.int .i64 (z i)).wf = true ∧ ∃ x : Addr, a = some x ∧ x.block < W.heap.size ∧ W.cell? (x.add i) = some (.int .i64 (z i))
theorem frame_ints {H : Type} {enc : TypeId × Value → H} {W : World} {a : Option Addr} {len cap : Nat} {d : DataW H} {p : List MemPlace}
    (h : DataW.Trod enc Tryd.prog W 0 (fun _ => true) true 31 (.slice a len cap) d p) : ∃ z, IntsIn W a len cap z := by
  obtain ⟨fuel, hf⟩ := h
  rcases open_ints Tryd.underlying31 Tryd.underlying3 (by kernel_rfl) hf with ⟨hcs, _⟩ | ⟨x, l, c, zs, hcs, _, hl, hm, hz, _, hcell, hwz⟩
  · simp [Value.cells] at hcs
    obtain ⟨rfl, rfl, rfl⟩ := hcs
    exact ⟨fun _ => 0, Nat.zero_le _, fun i hi => absurd hi (Nat.not_lt_zero i)⟩
  · simp [Value.cells] at hcs
    obtain ⟨rfl, rfl, rfl⟩ := hcs
    have hz' : zs.length = cap := by simpa using hz
    refine ⟨fun i => zs.getD i 0, Nat.le_trans hl hm, fun i hi => ⟨hwz _ ?_, x, rfl, ?_, hcell i (by omega)⟩⟩
    · show zs.getD i 0 ∈ zs
      rw [List.getD_eq_getElem?_getD, List.getElem?_eq_getElem (by omega)]; exact List.getElem_mem _
    · have := block_lt_of_cell (hcell i (by omega))
      rwa [add_block] at this
end Go.Proofs.YtpacaelnmpdnhaaDoor
