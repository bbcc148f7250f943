/- Users: by value. -/
import Derived.Test.YtpcogmpnmkmoeabSig6
namespace Go.Proofs.Ytpcogmpnmkmoeab
open Go.RowKit
set_option linter.unusedVariables false
set_option maxRecDepth 100000
/-- A user, or what has its form. -/
structure Usr where
  code : ByteArray
  data : ByteArray
  gain : Int
  delay : Int
def Usr.val (u : Usr) : Value := .agg #[.string u.code, .string u.data, .int .i64 u.gain, .int .i64 u.delay]
def usrG (g d : Int) : Bool := decide (0 ≤ g) && (decide (g ≤ 1000) && (decide (0 ≤ d) && decide (d ≤ 1000)))
theorem usrG_iff (g d : Int) : usrG g d = true ↔ 0 ≤ g ∧ g ≤ 1000 ∧ 0 ≤ d ∧ d ≤ 1000 := by unfold usrG; simp only [Bool.and_eq_true, decide_eq_true_eq]
/-- A valid user. -/
def usrB (c p : ByteArray) (g d : Int) : Bool := seqB c && (bitsB p && (usrG g d && decide ((p.size : Int) * (c.size : Int) + d ≤ 3000)))
theorem usrB_iff (c p : ByteArray) (g d : Int) : usrB c p g d = true ↔ seqB c = true ∧ bitsB p = true ∧ (0 ≤ g ∧ g ≤ 1000 ∧ 0 ≤ d ∧ d ≤ 1000) ∧ (p.size : Int) * (c.size : Int) + d ≤ 3000 := by
  unfold usrB; rw [Bool.and_eq_true, Bool.and_eq_true, Bool.and_eq_true, usrG_iff, decide_eq_true_eq]
theorem usr_no {c p : ByteArray} {g d : Int} (h : ¬ (seqB c = true ∧ bitsB p = true ∧ (0 ≤ g ∧ g ≤ 1000 ∧ 0 ≤ d ∧ d ≤ 1000) ∧ (p.size : Int) * (c.size : Int) + d ≤ 3000)) : false = usrB c p g d := by
  cases e : usrB c p g d with
  | false => rfl
  | true => exact absurd ((usrB_iff _ _ _ _).1 e) h
/-- What is left of a size. -/
def szU (c p : ByteArray) (l : Int) : Int := if l - (c.size : Int) < 0 then -1 else if l - (c.size : Int) - (p.size : Int) < 0 then -1 else l - (c.size : Int) - (p.size : Int)
/-- A box with a user. -/
def UsrAt (w : World) (b : Nat) (c p : ByteArray) (g d : Int) : Prop :=
  w.cell? ⟨b, 0, none⟩ = some (.string c) ∧ w.cell? ⟨b, 1, none⟩ = some (.string p) ∧ w.cell? ⟨b, 2, none⟩ = some (.int .i64 g) ∧ w.cell? ⟨b, 3, none⟩ = some (.int .i64 d) ∧ b < w.heap.size
theorem UsrAt.new (w : World) (t : TypeId) (c p : ByteArray) (g d : Int) : UsrAt (w.alloc (.cells #[.string c, .string p, .int .i64 g, .int .i64 d] t)) w.heap.size c p g d := by
  refine ⟨?_, ?_, ?_, ?_, by simp⟩ <;> simp
theorem UsrAt.below {w w' : World} {b B : Nat} {c p : ByteArray} {g d : Int} (h : UsrAt w b c p g d) (hb : Below B w w') (hB : b < B) : UsrAt w' b c p g d :=
  ⟨(hb.cell (p := ⟨b, 0, none⟩) hB).trans h.1, (hb.cell (p := ⟨b, 1, none⟩) hB).trans h.2.1, (hb.cell (p := ⟨b, 2, none⟩) hB).trans h.2.2.1, (hb.cell (p := ⟨b, 3, none⟩) hB).trans h.2.2.2.1, Nat.lt_of_lt_of_le h.2.2.2.2 hb.size⟩
end Go.Proofs.Ytpcogmpnmkmoeab
