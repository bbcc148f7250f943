/- ssFlip: a bit of a string changed. -/
import Derived.Test.YtabokoodpobnnaaDoorBytesRow
import Derived.Test.YtabokoodpobnnaaDoorFrm0
import Derived.Lib.ConvBytes
import Derived.Lib.OwnBridge
import Derived.StillTailTactics
namespace Go.Proofs.YtabokoodpobnnaaDoor
open Go.RowKit
set_option linter.unusedVariables false
set_option maxRecDepth 100000
/-- A string with one bit changed. -/
def flipS (z : ByteArray) (k : Nat) : ByteArray := strF z.size (fun i => if i = k then 97 - zb z i else zb z i)
theorem flipS_size (z : ByteArray) (k : Nat) : (flipS z k).size = z.size := strF_size _ _
theorem zb_flipS {z : ByteArray} {k i : Nat} (hi : i < z.size) : zb (flipS z k) i = if i = k then 97 - zb z i else zb z i := by
  have := zb_lt z i
  exact zb_strF (f := fun i => if i = k then 97 - zb z i else zb z i) hi (by show (if i = k then 97 - zb z i else zb z i) < 256; split <;> omega)
theorem flipS_ok {z : ByteArray} (h : okB z z.size = true) (k : Nat) : okB (flipS z k) (flipS z k).size = true := okB_of_zb _ fun i hi => by
  rw [flipS_size] at hi
  rw [zb_flipS hi]
  rcases okB_zb z h i hi with e | e <;> rw [e] <;> split <;> simp
theorem ssFlip_any (z : ByteArray) (k : Nat) (w : World) (hk : k < z.size) (hb : zb z k = 48 ∨ zb z k = 49) :
    Calls Tryd.prog 19 #[.string z, .int .i64 k] w fun e w' => e = .returned (.string (flipS z k)) ∧ Below w.heap.size w w' := by
  obtain ⟨W1, c, hcv, hH, hB⟩ : ∃ W1 c, (convert 9 29 (.string z)).run Tryd.prog w = .ok (.slice (some ⟨w.heap.size, 0, none⟩) z.size c) W1 ∧ (∀ j, j < z.size → W1.cell? ⟨w.heap.size, j, none⟩ = some (.int .u8 (zb z j : Nat)) ∧ W1.frozen? ⟨w.heap.size, j, none⟩ = false) ∧ Below w.heap.size w W1 :=
    ⟨_, _, Lib.run_convert_string_bytes w 9 29 5 z (u := .string) (by kernel_rfl) (by kernel_rfl) (by kernel_rfl), bytes_row w 5 z, below_bytesW w _ z⟩
  obtain ⟨c1, f1⟩ := hH k hk
  have i0 : (0 : Int) ≤ (k : Int) := by omega
  have i1 : (k : Int) < (z.size : Int) := by omega
  obtain ⟨V, hV⟩ : ∃ V, 97 - zb z k = V := ⟨_, rfl⟩
  have v1 : IntKind.u8.wrap ((97 : Int) - (zb z k : Nat)) = (V : Int) := by rw [show (97 : Int) - (zb z k : Nat) = (V : Int) by omega]; exact IntWalk.u8_in _ (by omega)
  have hcells : ∀ i, i < z.size → (W1.setCell ⟨w.heap.size, k, none⟩ (.int .u8 (V : Nat))).cell? ⟨w.heap.size, i, none⟩ = some (.int .u8 ((if i = k then 97 - zb z i else zb z i : Nat) : Int)) := fun i hi => by
    by_cases e : i = k
    · subst e
      rw [World.cell?_setCell_same _ _ _ c1, if_pos rfl, hV]
    · rw [World.cell?_setCell_other _ _ _ _ (by intro h; injection h with _ h _; exact e h.symm), (hH i hi).1, if_neg e]
  have hst := fun cap => str_cells (W := W1.setCell ⟨w.heap.size, k, none⟩ (.int .u8 (V : Nat))) (cap := cap) hcells
  have hB2 := bytes_below hB (Nat.le_refl _) k (.int .u8 (V : Nat))
  have HF : Hid (strF z.size (fun i => if i = k then 97 - zb z i else zb z i) = flipS z k) := Lib.hid rfl
  obtain ⟨y, hy⟩ : ∃ y, strF z.size (fun i => if i = k then 97 - zb z i else zb z i) = y := ⟨_, rfl⟩
  obtain ⟨U, hU⟩ : ∃ U, zb z k = U := ⟨_, rfl⟩
  rw [hy] at hst HF
  rw [hU] at c1 v1
  clear hy hV hb hH hcells hU
  go_enter Tryd.func19, Tryd.ntmps19
  go_wp2
  go_ret
  exact ⟨ret_str HF.out, hB2⟩
end Go.Proofs.YtabokoodpobnnaaDoor
