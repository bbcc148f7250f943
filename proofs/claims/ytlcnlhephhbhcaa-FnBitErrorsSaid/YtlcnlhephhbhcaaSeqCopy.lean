/- copy(dst, s) from a string into a row of the call's own: the run, its world by a name of its own. -/
import Derived.Test.YtlcnlhephhbhcaaSeqMath
import Derived.Lib.LazyBuf
namespace Go.Proofs.Ytlcnlhephhbhcaa
open Go.RowKit
set_option linter.unusedVariables false
theorem copy_string_row {P : Program} {w : World} (dT sT ty elem : TypeId) (hu : P.underlying dT = some (.slice elem)) (hz : ∀ w, (Go.sizeOf elem).run P w = .ok 1 w)
    (g off dLen dCap : Nat) (x : ByteArray) (hle : x.size ≤ dLen) (t : TypeId) (N : Nat) (f : Nat → Nat) (hr : Bytes w g t N f) (hfit : off + x.size ≤ N) (B : Nat) (w0 : World) (hb : Below B w0 w) (hBg : B ≤ g) :
    ∃ w', (Builtin.copy_ #[dT, sT] ty #[.slice (some ⟨g, off, none⟩) dLen dCap, .string x]).run P w = .ok (goInt x.size) w' ∧
      Bytes w' g t N (fun j => if off ≤ j ∧ j < off + x.size then zb x (j - off) else f j) ∧ Below B w0 w' := by
  have hrun := run_copy_string (P := P) w dT sT ty elem g off dLen dCap x hu hz hle (fun j hj => by rw [hr.cell (off + j) (by omega)]; rfl) (fun j _ => World.rowIs.frozen hr _)
  refine ⟨_, hrun, ?_, below_setCells hBg _ _ _ hb⟩
  have hl : (x.data.toList.map fun c => Value.int .u8 (c.toNat : Int)).length = x.size := by rw [List.length_map]; rfl
  refine World.rowIs.congr (rowIs_setCells _ off w _ hr) fun j hj => ?_
  rw [hl]
  by_cases hc : off ≤ j ∧ j < off + x.size
  · simp only [if_pos hc]
    have hx : j - off < x.data.toList.length := by show _ < x.size; omega
    rw [List.getElem?_map, List.getElem?_eq_getElem hx]
    unfold zb
    rw [List.getD_eq_getElem?_getD, List.getElem?_eq_getElem hx]
    rfl
  · simp only [if_neg hc]
end Go.Proofs.Ytlcnlhephhbhcaa
