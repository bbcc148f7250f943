/- slices.Reverse at a slice of bytes: the library's contract, in this program's numbers. ReverseBits of the program. -/
import Derived.Test.YtmlmpekhcnjehaaProg
import Derived.Test.YtmlmpekhcnjehaaSeqRev
import Derived.Ground.SlgnProg
import Derived.Shelf.SlicesE.Reverse
import Derived.Lib.ConvBytes
import Derived.Lib.OwnBridge
namespace Go.Proofs.Ytmlmpekhcnjehaa
open Go.Shelf
def revRen : Go.Shelf.Ren := ⟨fun | 35 => 42 | n => n, fun | 22 => 27 | 23 => 5 | 3 => 3 | 4 => 4 | 0 => 0 | n => n, fun | n => n⟩
theorem revLays : Go.Proofs.SlLaysE.n35 Try.prog revRen := {
  mixed := by kernel_rfl
  f35 := ⟨Try.f42.name, by decide, Try.func42.trans (congrArg some (by kernel_rfl))⟩
  t0 := Try.underlying0
  a0 := Try.isAgg0
  z0 := Try.sizeOf0
  v0 := Try.zeroValue0
  t3 := Try.underlying3
  a3 := Try.isAgg3
  z3 := Try.sizeOf3
  v3 := Try.zeroValue3
  t4 := Try.underlying4
  a4 := Try.isAgg4
  z4 := Try.sizeOf4
  v4 := Try.zeroValue4
  t22 := Try.underlying27
  a22 := Try.isAgg27
  z22 := Try.sizeOf27
  v22 := Try.zeroValue27
  a23 := Try.isAgg5
  z23 := Try.sizeOf5 }
open Go.Sort Go.RowKit Go.Lib in
theorem reverse_u8 (blk off cap : Nat) (zs : List Int) (w : World) (hH : Holds (Value.int .u8) w blk off zs.toArray) (hsz : zs.length ≤ 9223372036854775807) :
    Calls Try.prog 42 #[.slice (some ⟨blk, off, none⟩) zs.length cap] w fun e w' => e = .returned (.tuple #[]) ∧ ∃ n, w' = putRow (Value.int .u8) (Sort.ahead w n) blk off zs.reverse.toArray := AnyE.slices_Reverse revLays (Value.int .u8) (fun _ => rfl) blk off cap zs w hH hsz
end Go.Proofs.Ytmlmpekhcnjehaa
namespace Go.Proofs.Ytmlmpekhcnjehaa
open Go.RowKit
set_option linter.unusedVariables false
/-- The bytes of a string, as numbers. -/
def nums (z : ByteArray) : List Int := (List.range z.size).map fun i => ((zb z i : Nat) : Int)
theorem nums_len (z : ByteArray) : (nums z).length = z.size := by simp [nums]
theorem below_bytes (w : World) (e : TypeId) (s : ByteArray) : Below w.heap.size w (Lib.bytesWorld w e s) :=
  ⟨rfl, rfl, rfl, by rw [Lib.bytesWorld_size]; omega, fun k hk => Lib.bytesWorld_at_old w e s k hk⟩
theorem holds_bytes (w : World) (e : TypeId) (s : ByteArray) : Go.Sort.Holds (Value.int .u8) (Lib.bytesWorld w e s) w.heap.size 0 (nums s).toArray := by
  intro j hj
  have hj' : j < s.size := by simpa [nums_len] using hj
  have e1 : ((nums s).toArray)[j]! = ((zb s j : Nat) : Int) := by simp [nums, hj']
  refine ⟨?_, ?_⟩
  · rw [e1, Nat.zero_add, Lib.bytesWorld_cell w e s j hj']; rfl
  · rw [Nat.zero_add]
    unfold World.frozen?
    rw [show (⟨w.heap.size, j, none⟩ : Addr).block = w.heap.size from rfl, Lib.bytesWorld_at_new]
    have hl : s.size ≤ (Lib.bytesCells w e s).size := by unfold Lib.bytesCells; rw [Array.size_append, Array.size_map]; show s.size ≤ s.size + _; omega
    simp
    omega
theorem rev_nums (z : ByteArray) : (nums z).reverse = (List.range z.size).map fun i => ((zb z (z.size - 1 - i) : Nat) : Int) := by
  apply List.ext_getElem (by simp [nums])
  intro i h1 h2
  simp [nums] at h1 h2 ⊢
theorem rev_str (z : ByteArray) : strOfNums (nums z).reverse = revS z := by
  rw [rev_nums]
  unfold strOfNums revS strF
  simp [List.map_map, Function.comp_def]
set_option maxRecDepth 100000 in
theorem iRev_yes (z : ByteArray) (w : World) (h : seqB z = true) :
    Calls Try.prog 20 #[.string z] w fun e w' => e = .returned (.tuple #[.string (revS z), .bool true]) ∧ Below w.heap.size w w' := by
  have h12 := size_le h
  obtain ⟨y, hy⟩ : ∃ y, revS z = y := ⟨_, rfl⟩
  rw [hy]
  have HY := Lib.hid hy
  clear hy
  obtain ⟨W1, c, hcv, hH, hB⟩ : ∃ W1 c, (convert 9 27 (.string z)).run Try.prog w = .ok (.slice (some ⟨w.heap.size, 0, none⟩) z.size c) W1 ∧ Go.Sort.Holds (Value.int .u8) W1 w.heap.size 0 (nums z).toArray ∧ Below w.heap.size w W1 :=
    ⟨_, _, Lib.run_convert_string_bytes w 9 27 5 z (u := .string) (by kernel_rfl) (by kernel_rfl) (by kernel_rfl), holds_bytes w _ z, below_bytes w _ z⟩
  have hR := reverse_u8 w.heap.size 0 c (nums z) W1 hH (by rw [nums_len]; omega)
  rw [nums_len] at hR
  have HR := Lib.hid hR
  have HH := Lib.hid hH
  clear hR hH
  go_enter Try.func20, Try.ntmps20
  go_wp2_with fail
  refine (iSequenceValid_yes z _ h).mono ?_
  rintro e w' ⟨rfl, rfl⟩
  go_wp2_with fail
  clear hcv
  refine HR.out.mono ?_
  rintro e w2 ⟨rfl, n, hw2⟩
  have hH2 : Go.Sort.Holds (Value.int .u8) w2 w.heap.size 0 (nums z).reverse.toArray := by
    rw [hw2]; exact Go.Sort.holds_putRow _ _ _ _ (nums z).toArray _ (Go.Sort.holds_ahead _ _ n _ _ _ HH.out) (by simp)
  have hB2 : Below w.heap.size w w2 := by rw [hw2]; exact Lib.below_putRow hB (Nat.le_refl _)
  have hst := fun cap => run_convert_bytes_arg (P := Try.prog) w2 27 5 (by kernel_rfl) (by kernel_rfl) w.heap.size 0 z.size cap (nums z).reverse (by rw [List.length_reverse, nums_len]) (fun i hi => by
    have hi' : i < (nums z).reverse.toArray.size := by simp [nums_len]; exact hi
    rw [(hH2 i hi').1]
    have hi2 : i < (nums z).reverse.length := by simpa using hi'
    simp [List.getD_eq_getElem?_getD, List.getElem?_eq_getElem hi2]) 9 (by kernel_rfl)
  rw [rev_str, HY.out] at hst
  clear hw2 hH2 hB HR HH h
  go_wp2
  go_ret2
  exact ⟨rfl, hB2⟩
set_option maxRecDepth 100000 in
theorem iRev_any (z : ByteArray) (w : World) (hs : z.size ≤ 1048576) :
    Calls Try.prog 20 #[.string z] w fun e w' => e = .returned (.tuple #[.string (revAns z).1, .bool (revAns z).2]) ∧ Below w.heap.size w w' := by
  cases h : seqB z with
  | true => rw [show revAns z = (revS z, true) by unfold revAns; rw [h]; rfl]; exact iRev_yes z w h
  | false =>
    rw [show revAns z = noS by unfold revAns; rw [h]; rfl]
    go_enter Try.func20, Try.ntmps20
    go_wp2_with (first | (go_at_call 38; refine (iSequenceValid_no z _ (by omega) h).mono ?_; rintro e w1 ⟨rfl, rfl⟩))
    go_ret2
    exact ⟨rfl, Below.refl _ _⟩
end Go.Proofs.Ytmlmpekhcnjehaa
